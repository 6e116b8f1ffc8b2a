/-
  What falls, by numbers.
-/
import Derived.Test.YtmepapbbebddiaaFa
namespace Go.Proofs.Ytmepapbbebddiaa
open Go Go.RowKit

theorem count_one {l : List Nat} (hn : l.Nodup) {s : Nat} (hs : s ∈ l) {f g : Nat → Bool} (hg : g s = true) (hf : f s = false) (h : ∀ k ∈ l, k ≠ s → g k = f k) : (l.filter g).length = (l.filter f).length + 1 := by
  induction l with
  | nil => cases hs
  | cons x l ih =>
    rw [List.nodup_cons] at hn
    rcases List.mem_cons.1 hs with rfl | hs'
    · have e : l.filter g = l.filter f := List.filter_congr fun k hk => h k (by simp [hk]) (fun e => hn.1 (e ▸ hk))
      simp [hg, hf, e]
    · have hx : x ≠ s := fun e => hn.1 (e ▸ hs')
      have := ih hn.2 hs' (fun k hk hne => h k (by simp [hk]) hne)
      have e := h x (by simp) hx
      by_cases hfx : f x = true
      · rw [hfx] at e
        simp [hfx, e]; omega
      · have hfx' : f x = false := by simpa using hfx
        rw [hfx'] at e
        simp [hfx', e]; omega

theorem Kin.fall {n₀ : Nat} {S : List Nat} {N N' : Nat → Nd} {pg : Nat → Option Nat} (h : Kin n₀ S N pg) {s : Nat} (hs : s ∈ S) (hl : (N s).why = 0) {why : Int} (hwhy : why ≠ 0) {L : List Nat} (hsL : s ∈ L)
    (hLS : ∀ x, x ∈ L → x ∈ S ∧ s ≤ x ∧ (N x).why = 0 ∧ ∃ n, anc pg n x = some s) (hall : ∀ x ∈ S, (N x).why = 0 → (∃ n, anc pg n x = some s) → x ∈ L)
    (hE : ∀ b ∈ L, N' b = (N b).ended why) (hO : ∀ b ∈ S, b ∉ L → pg s ≠ some b → N' b = N b)
    (hP : ∀ p, pg s = some p → (N' p).up = (N p).up ∧ (N' p).why = (N p).why ∧ (((N' p).kids = (N p).kids ∧ (N' p).ug = (N p).ug + 1) ∨ ((N' p).kids = (N p).kids.filter (fun k => decide ((N' k).why = 0)) ∧ (N' p).ug = 0))) : Kin n₀ S N' pg := by
  have hpL : ∀ p, pg s = some p → p ∉ L ∧ p ∈ S ∧ (N p).why = 0 ∧ s ∈ (N p).kids := fun p hp => by
    obtain ⟨h1, h2, h3⟩ := (h.up s hs hl).2 p hp
    exact ⟨fun hc => by have := (hLS p hc).2.1; have := h.pgl s p hp; omega, h1, h2, h3⟩
  -- the reasons of those that did not fall stay
  have hw : ∀ b ∈ S, b ∉ L → (N' b).why = (N b).why := fun b hb hbL => by
    by_cases hp : pg s = some b
    · exact (hP b hp).2.1
    · rw [hO b hb hbL hp]
  have hwL : ∀ b ∈ L, (N' b).why ≠ 0 := fun b hb => by rw [hE b hb]; exact hwhy
  -- a kid that fell: its parent fell, or it is s
  have hkL : ∀ b ∈ S, ∀ k ∈ (N b).kids, k ∈ L → b ∈ L ∨ k = s := fun b hb k hk hkL => by
    obtain ⟨h1, h2, h3, n, h4⟩ := hLS k hkL
    obtain ⟨g1, g2, g3⟩ := h.kid b hb k hk
    cases n with
    | zero => simp only [anc, Option.some.injEq] at h4; exact Or.inr h4
    | succ n =>
      rw [anc, g3] at h4
      obtain ⟨f1, f2, f3⟩ := (h.up k h1 h3).2 b g3
      exact Or.inl (hall b hb f2 ⟨n, h4⟩)
  have hsub : ∀ b ∈ S, ∀ k ∈ (N' b).kids, k ∈ (N b).kids := fun b hb k hk => by
    by_cases hbL : b ∈ L
    · rw [hE b hbL] at hk; cases hk
    · by_cases hp : pg s = some b
      · rcases (hP b hp).2.2 with ⟨e, _⟩ | ⟨e, _⟩
        · rw [e] at hk; exact hk
        · rw [e] at hk; exact (List.mem_filter.1 hk).1
      · rw [hO b hb hbL hp] at hk; exact hk
  constructor
  · exact h.nodup
  · exact h.low
  · intro b hb hne
    by_cases hbL : b ∈ L
    · rw [hE b hbL]; exact ⟨rfl, rfl, rfl, rfl⟩
    · by_cases hp : pg s = some b
      · rw [hw b hb hbL] at hne
        exact absurd (hpL b hp).2.2.1 hne
      · rw [hO b hb hbL hp] at hne ⊢
        exact h.over b hb hne
  · intro b hb
    by_cases hbL : b ∈ L
    · rw [hE b hbL]; rfl
    · by_cases hp : pg s = some b
      · obtain ⟨p1, p2, p3, p4⟩ := hpL b hp
        rcases (hP b hp).2.2 with ⟨e, e2⟩ | ⟨e, e2⟩
        · rw [e, e2, h.gone b hb]
          refine (count_one (h.kidn b hb) p4 ?_ ?_ ?_).symm
          · simpa using hwL s hsL
          · simp [hl]
          · intro k hk hne
            have hkn : k ∉ L := fun hc => by
              rcases hkL b hb k hk hc with h' | h'
              · exact hbL h'
              · exact hne h'
            rw [hw k (h.kid b hb k hk).1 hkn]
        · rw [e, e2, List.filter_filter]
          symm
          rw [List.length_eq_zero_iff, List.filter_eq_nil_iff]
          intro k _
          simp
      · rw [hO b hb hbL hp, h.gone b hb]
        congr 1
        refine List.filter_congr fun k hk => ?_
        have hkn : k ∉ L := fun hc => by
          rcases hkL b hb k hk hc with h' | h'
          · exact hbL h'
          · subst h'
            exact hp (h.kid b hb k hk).2.2
        rw [hw k (h.kid b hb k hk).1 hkn]
  · intro b hb k hk
    exact h.kid b hb k (hsub b hb k hk)
  · intro b hb
    by_cases hbL : b ∈ L
    · rw [hE b hbL]; exact List.nodup_nil
    · by_cases hp : pg s = some b
      · rcases (hP b hp).2.2 with ⟨e, _⟩ | ⟨e, _⟩
        · rw [e]; exact h.kidn b hb
        · rw [e]; exact (h.kidn b hb).filter _
      · rw [hO b hb hbL hp]; exact h.kidn b hb
  · intro x hx hx0
    have hxL : x ∉ L := fun hc => hwL x hc hx0
    have hx0' : (N x).why = 0 := by rw [← hw x hx hxL]; exact hx0
    obtain ⟨u1, u2⟩ := h.up x hx hx0'
    constructor
    · by_cases hp : pg s = some x
      · rw [(hP x hp).1]; exact u1
      · rw [hO x hx hxL hp]; exact u1
    · intro y hy
      obtain ⟨y1, y2, y3⟩ := u2 y hy
      have hyL : y ∉ L := fun hc => by
        obtain ⟨_, _, _, n, hn⟩ := hLS y hc
        exact hxL (hall x hx hx0' ⟨n + 1, by rw [anc, hy]; exact hn⟩)
      refine ⟨y1, by rw [hw y y1 hyL]; exact y2, ?_⟩
      by_cases hp : pg s = some y
      · rcases (hP y hp).2.2 with ⟨e, _⟩ | ⟨e, _⟩
        · rw [e]; exact y3
        · rw [e]; exact List.mem_filter.2 ⟨y3, by simpa using hx0⟩
      · rw [hO y y1 hyL hp]; exact y3
  · exact h.pgl
  · exact h.pgS

theorem Fam.all {w : World} {n₀ lk : Nat} {S : List Nat} {N : Nat → Nd} {pg : Nat → Option Nat} {q : Int} (h : Fam w n₀ lk S N pg q) {s : Nat} (hs : s ∈ S) : ∀ x ∈ S, (N x).why = 0 → (∃ n, anc pg n x = some s) → x ∈ BRof S N w.heap.size s := by
  rintro x _ hx0 ⟨n, hn⟩
  refine br_all h.tree ?_ (h.lt hs) n x (by simpa using hx0) hn
  intro y p hy hp
  obtain ⟨h1, h2, h3⟩ := (h.kin.up y (h.kin.pgS y p hp) (by simpa using hy)).2 p hp
  exact ⟨by simpa using h2, by rw [kidsOf_mem h1]; exact h3⟩

theorem Fam.gap {w : World} {n₀ lk : Nat} {S : List Nat} {N : Nat → Nd} {pg : Nat → Option Nat} {q : Int} (h : Fam w n₀ lk S N pg q) {x : Nat} (hx : x ∈ S) : x + 1 ∉ S := fun hc => by
  have c1 := h.stop x hx
  have c2 := h.chan (x + 1) hc
  unfold Blk at c1; unfold ChanAt at c2
  rw [Nat.add_sub_cancel, c1] at c2
  cases c2

theorem Fam.fallen {w w' : World} {n₀ lk : Nat} {S : List Nat} {N : Nat → Nd} {pg : Nat → Option Nat} {q : Int} (h : Fam w n₀ lk S N pg q) {s : Nat} (hs : s ∈ S) (hl : (N s).why = 0) {why : Int} (hwhy : why ≠ 0) {L : List Nat} (hsL : s ∈ L)
    (hLS : ∀ x, x ∈ L → x ∈ S ∧ s ≤ x ∧ (N x).why = 0 ∧ ∃ n, anc pg n x = some s) (hall : ∀ x ∈ S, (N x).why = 0 → (∃ n, anc pg n x = some s) → x ∈ L)
    (v' : Value) (ids' : List Nat) (g' : Nat) (m0 : w.heap.size ≤ w'.heap.size)
    (m1 : ∀ b ∈ L, Blk w' b (((N b).ended why).cells lk b) 85 ∧ ChanAt w' (b - 1) true)
    (m2 : ∀ j, j < w.heap.size → j ∉ L → j + 1 ∉ L → pg s ≠ some j → w'.heap[j]? = w.heap[j]?)
    (m3 : ∀ p, pg s = some p → Blk w' p (Nd.cells { N p with us := v', kids := ids', ug := g' } lk p) 85 ∧ w'.ownsRow n₀ 46 1 v' ids'.length (ids'.map ptrV) ∧
      ((v' = (N p).us ∧ ids' = (N p).kids ∧ g' = (N p).ug + 1) ∨ (ids' = (N p).kids.filter (fun k => decide ((if k ∈ L then why else (N k).why) = 0)) ∧ g' = 0 ∧ ∀ j, v'.ownBlock = some j → w.heap.size ≤ j))) :
    ∃ N', Fam w' n₀ lk S N' pg q ∧ (∀ b ∈ S, (N' b).why = (if b ∈ L then why else (N b).why) ∧ (N' b).left = (N b).left) ∧ (∀ k, Foot lk S N' k → Foot lk S N k ∨ w.heap.size ≤ k) := by
  have hpL : ∀ p, pg s = some p → p ∉ L ∧ p ∈ S ∧ (N p).why = 0 := fun p hp => by
    obtain ⟨h1, h2, h3⟩ := (h.kin.up s hs hl).2 p hp
    exact ⟨fun hc => by have := (hLS p hc).2.1; have := h.kin.pgl s p hp; omega, h1, h2⟩
  obtain ⟨N', hN'⟩ : ∃ N' : Nat → Nd, N' = fun b => if b ∈ L then (N b).ended why else if pg s = some b then { N b with us := v', kids := ids', ug := g' } else N b := ⟨_, rfl⟩
  have nE : ∀ b ∈ L, N' b = (N b).ended why := fun b hb => by rw [hN']; simp [hb]
  have nP : ∀ p, pg s = some p → N' p = { N p with us := v', kids := ids', ug := g' } := fun p hp => by rw [hN']; simp [(hpL p hp).1, hp]
  have nO : ∀ b, b ∉ L → pg s ≠ some b → N' b = N b := fun b hb hp => by rw [hN']; simp [hb, hp]
  have nW : ∀ b, (N' b).why = if b ∈ L then why else (N b).why := fun b => by
    by_cases hb : b ∈ L
    · rw [nE b hb, if_pos hb]
    · rw [if_neg hb]
      by_cases hp : pg s = some b
      · rw [nP b hp]
      · rw [nO b hb hp]
  have nL : ∀ b, (N' b).left = (N b).left := fun b => by
    by_cases hb : b ∈ L
    · rw [nE b hb]
    · by_cases hp : pg s = some b
      · rw [nP b hp]
      · rw [nO b hb hp]
  have kin : Kin n₀ S N' pg := h.kin.fall hs hl hwhy hsL hLS hall nE (fun b _ hb hp => nO b hb hp) (fun p hp => by
    rw [nP p hp]
    refine ⟨rfl, rfl, ?_⟩
    rcases (m3 p hp).2.2 with ⟨_, e2, e3⟩ | ⟨e1, e2, _⟩
    · exact Or.inl ⟨e2, e3⟩
    · refine Or.inr ⟨?_, e2⟩
      rw [e1]
      refine List.filter_congr fun k _ => ?_
      rw [nW k])
  -- blocks that are neither stops nor channels of what fell
  have keep : ∀ j, j < w.heap.size → j ∉ S → j + 1 ∉ S → w'.heap[j]? = w.heap[j]? := fun j hj h1 h2 => m2 j hj (fun hc => h1 (hLS j hc).1) (fun hc => h2 (hLS _ hc).1) (fun hc => h1 (hpL j hc).2.1)
  have rowB : ∀ b ∈ S, ∀ g, (N b).us.ownBlock = some g → g < w.heap.size ∧ g ∉ S ∧ g + 1 ∉ S := fun b hb g hg => by
    obtain ⟨r1, r2, c, r3⟩ := ownsRow_base (h.row b hb) hg
    refine ⟨r2, fun hc => ?_, fun hc => ?_⟩
    · exact (Blk.ne r3 (h.stop g hc) (by decide)) rfl
    · have := h.chan (g + 1) hc
      unfold ChanAt at this; unfold Blk at r3
      rw [Nat.add_sub_cancel, r3] at this
      cases this
  refine ⟨N', ⟨kin, ?_, h.lkb, Nat.le_trans h.base m0, ?_, ?_, ?_, ?_⟩, fun b hb => ⟨nW b, nL b⟩, ?_⟩
  · refine h.lock.upd (keep lk h.lock.lt (fun hc => (Blk.ne h.lock (h.stop lk hc) (by decide)) rfl) (fun hc => ?_))
    have := h.chan (lk + 1) hc
    have r3 := h.lock
    unfold ChanAt at this; unfold Blk at r3
    rw [Nat.add_sub_cancel, r3] at this
    cases this
  · intro b hb
    by_cases hbL : b ∈ L
    · rw [nE b hbL]; exact (m1 b hbL).1
    · by_cases hp : pg s = some b
      · rw [nP b hp]; exact (m3 b hp).1
      · rw [nO b hbL hp]
        exact (h.stop b hb).upd (m2 b (h.lt hb) hbL (fun hc => h.gap hb (hLS _ hc).1) hp)
  · intro b hb
    have hb1 := h.kin.low b hb
    rw [nW b]
    by_cases hbL : b ∈ L
    · rw [if_pos hbL]
      have := (m1 b hbL).2
      simpa [hwhy] using this
    · rw [if_neg hbL]
      have h1 := h.chan b hb
      unfold ChanAt at h1 ⊢
      have hne : b - 1 ∉ S := fun hc => h.gap hc (by rw [Nat.sub_add_cancel (by omega)]; exact hb)
      rw [m2 (b - 1) (by have := h.lt hb; omega) (fun hc => hne (hLS _ hc).1) (by rw [Nat.sub_add_cancel (by omega)]; exact hbL) (fun hc => hne (hpL _ hc).2.1)]
      exact h1
  · intro b hb
    by_cases hbL : b ∈ L
    · rw [nE b hbL]; exact World.ownsRow_nil _ _ _ _
    · by_cases hp : pg s = some b
      · rw [nP b hp]; exact (m3 b hp).2.1
      · rw [nO b hbL hp]
        refine ownsRow_heap (h.row b hb) (fun g hg => ?_)
        obtain ⟨r1, r2, r3⟩ := rowB b hb g hg
        exact keep g r1 r2 r3
  · -- rows stay apart
    have fresh : ∀ b ∈ S, ∀ g, (N' b).us.ownBlock = some g → (N b).us.ownBlock = some g ∨ (pg s = some b ∧ w.heap.size ≤ g) := fun b hb g hg => by
      by_cases hbL : b ∈ L
      · rw [nE b hbL] at hg; simp [Value.ownBlock] at hg
      · by_cases hp : pg s = some b
        · rw [nP b hp] at hg
          rcases (m3 b hp).2.2 with ⟨e1, _, _⟩ | ⟨_, _, e3⟩
          · simp only [e1] at hg; exact Or.inl hg
          · exact Or.inr ⟨hp, e3 g hg⟩
        · rw [nO b hbL hp] at hg; exact Or.inl hg
    intro b hb b' hb' hne g hg hg'
    rcases fresh b hb g hg with f1 | ⟨f1, f2⟩ <;> rcases fresh b' hb' g hg' with f3 | ⟨f3, f4⟩
    · exact h.apart b hb b' hb' hne g f1 f3
    · have := (rowB b hb g f1).1; omega
    · have := (rowB b' hb' g f3).1; omega
    · rw [f1] at f3; injection f3 with e; exact hne e
  · intro k hk
    rcases hk with rfl | hk | hk | ⟨b, hb, hg⟩
    · exact Or.inl (Or.inl rfl)
    · exact Or.inl (Or.inr (Or.inl hk))
    · exact Or.inl (Or.inr (Or.inr (Or.inl hk)))
    · by_cases hbL : b ∈ L
      · rw [nE b hbL] at hg; simp [Value.ownBlock] at hg
      · by_cases hp : pg s = some b
        · rw [nP b hp] at hg
          rcases (m3 b hp).2.2 with ⟨e1, _, _⟩ | ⟨_, _, e3⟩
          · simp only [e1] at hg; exact Or.inl (Or.inr (Or.inr (Or.inr ⟨b, hb, hg⟩)))
          · exact Or.inr (e3 k hg)
        · rw [nO b hbL hp] at hg; exact Or.inl (Or.inr (Or.inr (Or.inr ⟨b, hb, hg⟩)))
end Go.Proofs.Ytmepapbbebddiaa
