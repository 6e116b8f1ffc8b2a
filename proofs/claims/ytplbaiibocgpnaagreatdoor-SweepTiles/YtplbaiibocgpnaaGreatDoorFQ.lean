/-
  FQ.
-/
import Derived.Test.YtplbaiibocgpnaaGreatDoorFP
import Derived.Test.YtplbaiibocgpnaaGreatDoorFU
namespace Go.Proofs.YtplbaiibocgpnaaGreatDoor
open Go Go.RowKit
set_option maxRecDepth 100000

/-- Depths and nodes, as the spots' parents make them. -/
structure Shape (X0 : List Spot) (nm : List Int) (dp : Nat → Nat) (fin : Nat → Nod) : Prop where
  rt : ∀ i (h : i < X0.length), nm.getD i (-1) = -1 → dp i = 0 ∧ fin i = rootN X0[i]
  kd : ∀ i j (hi : i < X0.length) (_ : j < X0.length), nm.getD i (-1) = (j : Int) → dp i = dp j + 1 ∧ fin i = hangN X0[i] (fin j)
  bd : ∀ i, i < X0.length → dp i ≤ 1000 ∧ 0 ≤ (fin i).dep ∧ (fin i).dep ≤ 1000000
/-- A forest that grows: who is hung (H), who was visited (V). -/
structure GrS (base f sb : Nat) (X0 : List Spot) (nm : List Int) (fin : Nat → Nod) (KV : Nat → Value) (rv : Value) (R : List Int) (H V : Nat → Prop) (w : World) (X : List Spot) (K : Nat → List Int) : Prop where
  at_ : PlAt base w f sb X K rv R
  len : X.length = X0.length
  same : ∀ i (h : i < X0.length), (X[i]'(by omega)).a = X0[i].a ∧ (X[i]'(by omega)).p = X0[i].p ∧ (X[i]'(by omega)).kv = KV i
  nd1 : ∀ i (h : i < X0.length), nm.getD i (-1) = -1 → (X[i]'(by omega)).nd = rootN X0[i]
  nd2 : ∀ i (h : i < X0.length), nm.getD i (-1) ≠ -1 → H i → (X[i]'(by omega)).nd = fin i
  nd3 : ∀ i (h : i < X0.length), nm.getD i (-1) ≠ -1 → ¬ H i → (X[i]'(by omega)).nd = X0[i].nd
  kv : ∀ i, i < X0.length → V i → (kidsF nm X0.length i).Perm (K i) ∧ (K i).Pairwise (fun a b => ¬ ltK (fin b.toNat) (fin a.toNat))
  kn : ∀ i, i < X0.length → ¬ V i → K i = kidsF nm X0.length i
/-- What growing writes. -/
def GrW (sb : Nat) (KV : Nat → Value) (n : Nat) (k : Nat) : Prop := k = sb ∨ ∃ i, i < n ∧ (KV i).ownBlock = some k
theorem GrS.hang {base f sb : Nat} {X0 : List Spot} {nm : List Int} {fin : Nat → Nod} {KV : Nat → Value} {rv : Value} {R : List Int} {H V : Nat → Prop} {w w' : World} {X : List Spot} {K : Nat → List Int} (h : GrS base f sb X0 nm fin KV rv R H V w X K) {c : Nat} (hc : c < X.length) (d : Nod) (hd : nm.getD c (-1) ≠ -1) (hf : fin c = hangN (X0[c]'(by have := h.len; omega)) d) (hn : ¬ H c) (hB : Blk w' sb (rowS (X.set c (hangS X[c] d))) 62) (hu : Upd (fun k => k = sb) w w') : GrS base f sb X0 nm fin KV rv R (fun i => H i ∨ i = c) V w' (X.set c (hangS X[c] d)) K := by
  have hl := h.len
  have hg : ∀ i (hi : i < X0.length), i ≠ c → ((X.set c (hangS X[c] d))[i]'(by simp; omega)) = (X[i]'(by omega)) := fun i hi hne => by rw [List.getElem_set_ne (fun e => hne e.symm)]
  refine ⟨h.at_.spot hc _ rfl hB hu, by simp [hl], fun i hi => ?_, fun i hi h1 => ?_, fun i hi h1 h2 => ?_, fun i hi h1 h2 => ?_, h.kv, h.kn⟩
  · by_cases e : i = c
    · subst e; simp only [List.getElem_set_self]; exact h.same i hi
    · rw [hg i hi e]; exact h.same i hi
  · by_cases e : i = c
    · subst e; exact absurd h1 hd
    · rw [hg i hi e]; exact h.nd1 i hi h1
  · by_cases e : i = c
    · subst e
      simp only [List.getElem_set_self]
      rw [hf]
      show hangN X[i] d = _
      unfold hangN
      rw [h.nd3 i hi hd hn, (h.same i hi).1]
    · rw [hg i hi e]
      rcases h2 with h2 | h2
      · exact h.nd2 i hi h1 h2
      · exact absurd h2 e
  · have e : i ≠ c := fun e => h2 (Or.inr e)
    rw [hg i hi e]
    exact h.nd3 i hi h1 (fun hh => h2 (Or.inl hh))
theorem GrS.sorted {base f sb : Nat} {X0 : List Spot} {nm : List Int} {fin : Nat → Nod} {KV : Nat → Value} {rv : Value} {R : List Int} {H V : Nat → Prop} {w w' : World} {X : List Spot} {K : Nat → List Int} (h : GrS base f sb X0 nm fin KV rv R H V w X K) {x : Nat} (hx : x < X.length) (hv : ¬ V x) (L : List Int) (hp : (K x).Perm L) (hs : L.Pairwise (fun a b => ¬ ltK (fin b.toNat) (fin a.toNat))) (ho : w'.ownsRow base 3 1 X[x].kv L.length (L.map (Value.int .i64))) (hu : Upd (fun k => X[x].kv.ownBlock = some k) w w') : GrS base f sb X0 nm fin KV rv R H (fun i => V i ∨ i = x) w' X (fun i => if i = x then L else K i) := by
  have hl := h.len
  have A := h.at_
  have hlt := fun g (e : X[x].kv.ownBlock = some g) => owns_lt (A.kids x hx) e
  refine ⟨⟨A.head.upd hu (fun e => by have := (hlt _ e).1; have := A.fb; omega), A.row.upd hu (fun e => by have := (hlt _ e).1; have := A.sbb; omega), A.fb, A.sbb, A.ne, Nat.le_trans A.le hu.size, ownsRow_upd A.roots hu (fun k e hh => A.apartR x hx k e hh), fun i hi => ?_, A.apart, A.apartR⟩, hl, h.same, h.nd1, h.nd2, h.nd3, fun i hi h1 => ?_, fun i hi h1 => ?_⟩
  · by_cases e : i = x
    · subst e; simp only [if_true]; exact ho
    · simp only [e, if_false]
      exact ownsRow_upd (A.kids i hi) hu (fun k e1 hh => A.apart x i hx hi (fun e' => e e'.symm) k hh e1)
  · by_cases e : i = x
    · subst e
      simp only [if_true]
      refine ⟨?_, hs⟩
      rw [← h.kn i hi hv]
      exact hp
    · simp only [e, if_false]
      rcases h1 with h1 | h1
      · exact h.kv i hi h1
      · exact absurd h1 e
  · have e : i ≠ x := fun e => h1 (Or.inr e)
    simp only [e, if_false]
    exact h.kn i hi (fun hh => h1 (Or.inl hh))
theorem GrS.upd {S : Nat → Prop} {base f sb : Nat} {X0 : List Spot} {nm : List Int} {fin : Nat → Nod} {KV : Nat → Value} {rv : Value} {R : List Int} {H V : Nat → Prop} {w w' : World} {X : List Spot} {K : Nat → List Int} (h : GrS base f sb X0 nm fin KV rv R H V w X K) (hu : Upd S w w') (h1 : ¬ S f) (h2 : ¬ S sb) (h3 : ∀ g, rv.ownBlock = some g → ¬ S g) (h4 : ∀ i (hi : i < X.length) g, X[i].kv.ownBlock = some g → ¬ S g) : GrS base f sb X0 nm fin KV rv R H V w' X K :=
  ⟨h.at_.upd hu h1 h2 h3 h4, h.len, h.same, h.nd1, h.nd2, h.nd3, h.kv, h.kn⟩
theorem GrS.below {base f sb : Nat} {X0 : List Spot} {nm : List Int} {fin : Nat → Nod} {KV : Nat → Value} {rv : Value} {R : List Int} {H V : Nat → Prop} {w w' : World} {X : List Spot} {K : Nat → List Int} (h : GrS base f sb X0 nm fin KV rv R H V w X K) (hb : Below w.heap.size w w') : GrS base f sb X0 nm fin KV rv R H V w' X K :=
  h.upd (S := fun _ => False) (Upd.ofBelow hb (fun k h1 h2 => by omega)) (fun h => h) (fun h => h) (fun _ _ h => h) (fun _ _ _ _ h => h)
theorem GrS.cast {base f sb : Nat} {X0 : List Spot} {nm : List Int} {fin : Nat → Nod} {KV : Nat → Value} {rv : Value} {R : List Int} {H H' V V' : Nat → Prop} {w : World} {X : List Spot} {K : Nat → List Int} (h : GrS base f sb X0 nm fin KV rv R H V w X K) (hH : ∀ i, i < X0.length → (H i ↔ H' i)) (hV : ∀ i, i < X0.length → (V i ↔ V' i)) : GrS base f sb X0 nm fin KV rv R H' V' w X K :=
  ⟨h.at_, h.len, h.same, h.nd1, fun i hi a b => h.nd2 i hi a ((hH i hi).2 b), fun i hi a b => h.nd3 i hi a (fun hh => b ((hH i hi).1 hh)), fun i hi a => h.kv i hi ((hV i hi).2 a), fun i hi a => h.kn i hi (fun hh => a ((hV i hi).1 hh))⟩
theorem kidsF_iff {nm : List Int} {n : Nat} {j x : Int} : x ∈ kidsF nm n j ↔ ∃ i : Nat, x = i ∧ i < n ∧ nm.getD i (-1) = j := by
  unfold kidsF
  simp only [List.mem_map, List.mem_filter, List.mem_range, beq_iff_eq]
  constructor
  · rintro ⟨i, ⟨h1, h2⟩, rfl⟩; exact ⟨i, rfl, h1, h2⟩
  · rintro ⟨i, rfl, h1, h2⟩; exact ⟨i, ⟨h1, h2⟩, rfl⟩
theorem kidsF_nodup (nm : List Int) (n : Nat) (j : Int) : (kidsF nm n j).Nodup := by
  unfold kidsF
  have h : (List.filter (fun i => nm.getD i (-1) == j) (List.range n)).Nodup := List.Nodup.sublist List.filter_sublist List.nodup_range
  unfold List.Nodup at h ⊢
  rw [List.pairwise_map]
  exact h.imp (fun hne e => hne (by omega))
end Go.Proofs.YtplbaiibocgpnaaGreatDoor
