/-
  RS.
-/
import Derived.Test.YtobjjdggjgnfcaaGreatDoorRLq
import Derived.Test.YtobjjdggjgnfcaaGreatDoorRQq
namespace Go.Proofs.YtobjjdggjgnfcaaGreatDoor
open Go Go.RowKit
set_option maxRecDepth 100000

theorem LieIn.unmap {α β : Type} {f : α → List Value} {g : β → List Value} {k : α → β} {s : Nat} {W : World} {ad : Option Addr} {l : List α} (h : LieIn g s W ad (l.map k)) (he : ∀ x ∈ l, f x = g (k x)) : LieIn f s W ad l := fun hn => by
  obtain ⟨b, e, hb, hc⟩ := h (fun e => hn (List.map_eq_nil_iff.1 e))
  refine ⟨b, e, hb, fun i hi j v hv => ?_⟩
  refine hc i (by simpa using hi) j v ?_
  rw [he _ (List.getElem_mem hi)] at hv
  simpa using hv
structure RtS (w : World) (f : Nat) (id fr til : Int) (M : List (Int × Int)) (N : List (List UInt8 × Int)) : Prop where
  ml : M.length ≤ 1000
  nl : N.length ≤ 1000
  rng : 0 ≤ fr ∧ fr ≤ til ∧ til ≤ 4611686018427387904
  sh : ∀ W, Below w.heap.size w W → Calls Tryz.prog 15 #[.pointer (some ⟨f, 0, none⟩), .int .u64 id] W (LstP shQ 2 M 0 W)
  sv : ∀ W, Below w.heap.size w W → Calls Tryz.prog 16 #[.pointer (some ⟨f, 0, none⟩), .int .u64 id] W (LstP svQ 2 N 0 W)
  mp : ∀ i (h : i < M.length), 0 < M[i].2
  mr : ∀ i (h : i + 1 < M.length), M[i].1 < M[i + 1].1
  ma : ∀ i (h : i < M.length) W, Below w.heap.size w W → Calls Tryz.prog 17 #[.pointer (some ⟨f, 0, none⟩), .int .u64 M[i].1] W fun e W' => ∃ v, e = .returned (.int .u64 v) ∧ M[i].2 ≤ v ∧ Below W.heap.size W W'
  ms : (M.map (fun p => p.2)).sum = til - fr
  np : ∀ i (h : i < N.length), 0 < N[i].2
  nr : ∀ i (h : i + 1 < N.length), N[i].1 < N[i + 1].1
  no : ∀ i (h : i < N.length) W, Below w.heap.size w W → ∀ ad n cap, M.length = n → LieIn shQ 2 W ad M → Calls Tryz.prog 18 #[.pointer (some ⟨f, 0, none⟩), .slice ad n cap, .string ⟨N[i].1.toArray⟩] W fun e W' => e = .returned (.int .u64 N[i].2) ∧ Below W.heap.size W W'
  ns : (N.map (fun p => p.2)).sum = til - fr
theorem rtS_root {Y : List Sp} {C : List Int} {dp : Nat → Nat} {fin : Nat → Nod} {X : List Spot} {K : Nat → List Int} {R : List Int} {w : World} {f sb : Nat} {rv : Value} (hF : ForestAt w f sb X K rv R) (hB : FoB Y C dp fin X K R) (x : Nat) (hx : x < Y.length) (ho : (fin x).org ≠ 0) : ∃ M N, RtS w f (fin x).id (fin x).fr (fin x).til M N := by
  have T := hB.senv x hx
  have hl := hB.fo.len
  have hi := hB.inn (dp x) x rfl hx
  obtain ⟨_, _, ad0, cap0, L, _, hP, hL2, _⟩ := calls_ex (path_any f sb X K rv R (spAt Y) fin (knK K) (cnK fin K) 1001 x w hF T ho)
  obtain ⟨_, _, _, _, _, L2, l, _, hs, _⟩ := calls_ex (services_any f sb X K rv R Y C dp fin w hF hB x hx ho)
  obtain ⟨hP2, hll, hsv, _, hn1⟩ := hs.out
  obtain rfl := (hP.one _ hP2).symm
  obtain ⟨N64, hN⟩ : ∃ N : Nat, (N : Int) = 18446744073709551615 := ⟨18446744073709551615, rfl⟩
  have hnn := fun y => (hungI_nn L y).1
  have hW := hB.whole hx hP
  have hz : ∀ y ∈ shL L Y.length, y < Y.length ∧ 0 < hungI L y := fun y hy => shL_mem.1 hy
  have hzl : (shL L Y.length).length ≤ 1000 := by have := shL_len L Y.length; have := hB.one.len; omega
  have hval : ∀ s, valS (spAt Y) (hungI L) (shL L Y.length) s = sumS (spAt Y) (hungI L) (shL L Y.length) s := fun s => by
    have h1 := sumS_nn (spAt Y) (hungI L) hnn s (shL L Y.length)
    have h2 := sumS_le (spAt Y) (hungI L) hnn s (shL L Y.length)
    unfold valS
    rw [IntKind.wrap_u64]
    omega
  have hnd : l.Nodup := hsv.rise.imp (fun hab e => by subst e; exact absurd hab (List.lt_irrefl _))
  refine ⟨(shL L Y.length).map (fun y => ((fin y).id, hungI L y)), l.map (fun s => (s, valS (spAt Y) (hungI L) (shL L Y.length) s)), ?_⟩
  refine ⟨by simpa using hzl, by simp; omega, ⟨by omega, by omega, by omega⟩, ?_, ?_, ?_, ?_, ?_, ?_, ?_, ?_, ?_, ?_⟩
  · intro W hW'
    refine (shares_any f sb X K rv R Y C dp fin W (hF.below hW') hB x hx ho).mono ?_
    rintro e W' ⟨ad, n, cap, M, rfl, hM, hM4⟩
    obtain rfl := (hP.one _ hM.out.1).symm
    exact ⟨ad, cap, by simp [hM.out.2.1], hM.out.2.2.map (fun y _ => rfl), hM4⟩
  · intro W hW'
    refine (services_any f sb X K rv R Y C dp fin W (hF.below hW') hB x hx ho).mono ?_
    rintro e W' ⟨ad, n, cap, M, m, rfl, hM, hM4⟩
    obtain rfl := (hP.one _ hM.out.1).symm
    obtain rfl := hsv.one hM.out.2.2.1
    exact ⟨ad, cap, by simp [hM.out.2.1], hM.out.2.2.2.1.map (fun y _ => rfl), hM4⟩
  · intro i h
    simp only [List.length_map] at h
    simp only [List.getElem_map]
    exact (hz _ (List.getElem_mem h)).2
  · intro i h
    simp only [List.length_map] at h
    simp only [List.getElem_map]
    have hp : (shL L Y.length).Pairwise (fun a b => a < b) := List.pairwise_lt_range.filter _
    rw [List.pairwise_iff_getElem] at hp
    exact hB.idRise (hp i (i + 1) (by omega) h (by omega)) (hz _ (List.getElem_mem h)).1
  · intro i h W hW'
    simp only [List.length_map] at h
    simp only [List.getElem_map]
    have hy := hz _ (List.getElem_mem h)
    generalize (shL L Y.length)[i] = y at hy
    have hA := hB.aloneLe hx hP hy.1 hN
    have hH := hB.hung hx hP y
    have h0 := (cntM_nonneg (memI (kidI fin K y)) (-9223372036854775808) N64).1
    have h1 := sumH_nn L y
    refine (aloneW_any f sb X K rv R Y C dp fin W (hF.below hW') hB y hy.1 hN (by unfold iv.muV; omega) (by unfold iv.muV; exact h0)).mono ?_
    rintro e W' ⟨rfl, hb⟩
    exact ⟨_, rfl, by unfold iv.muV; omega, hb⟩
  · rw [List.map_map]
    exact hW
  · intro i h
    simp only [List.length_map] at h
    simp only [List.getElem_map]
    obtain ⟨y, h1, h2⟩ := (hsv.mem _).1 (List.getElem_mem h)
    rw [hval]
    exact sumS_pos (spAt Y) (hungI L) hnn _ _ y h1 h2 (hz y h1).2
  · intro i h
    simp only [List.length_map] at h
    simp only [List.getElem_map]
    have hp := hsv.rise
    rw [List.pairwise_iff_getElem] at hp
    exact hp i (i + 1) (by omega) h (by omega)
  · intro i h W hW' ad n cap hn hA
    simp only [List.length_map] at h hn
    simp only [List.getElem_map]
    exact ofW_any f sb X K rv R Y C dp fin W (hF.below hW') hB L (shL L Y.length) (fun y hy => (hz y hy).1) ad n cap hn (by omega) (hA.unmap (fun y _ => rfl)) l[i]
  · rw [List.map_map]
    have e : ((fun p : List UInt8 × Int => p.2) ∘ fun s => (s, valS (spAt Y) (hungI L) (shL L Y.length) s)) = sumS (spAt Y) (hungI L) (shL L Y.length) := by funext s; exact hval s
    rw [e, sumS_names (spAt Y) (hungI L) (shL L Y.length) l hnd (fun y hy => (hsv.mem _).2 ⟨y, hy, rfl⟩), hW]
end Go.Proofs.YtobjjdggjgnfcaaGreatDoor
