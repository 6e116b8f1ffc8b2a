/-
  Merged: HG, HJ.
-/
import Derived.Test.YtbdkaanmkegfiaaGreatDoorHAq
import Derived.Test.YtbdkaanmkegfiaaGreatDoorHFq
import Derived.Test.YtbdkaanmkegfiaaGreatDoorOY
import Derived.Test.YtbdkaanmkegfiaaGreatDoorQAq
import Derived.Test.YtbdkaanmkegfiaaGreatDoorGH
namespace Go.Proofs.YtbdkaanmkegfiaaGreatDoor
open Go Go.RowKit
set_option maxRecDepth 100000

theorem step_appF {P : Program} (w : World) {ops : Array Oper} {o : Oper} {a : Act} {K : Act → World → Prop} {Q : Exit → Act → World → Prop} {E : Prop} (hgd : o.guard = none) (s x : Operand) (t tx : TypeId)
    (ho : o.op = .call { callee := .builtin .append, args := #[s, x], argTypes := #[t, tx] })
    (base : Nat) (e : TypeId) (i : TypeInfo) (z : Value) (size bytes : Nat) (ht : P.underlying t = some (.slice e)) (hi : P.info? e = some i) (hz : i.zero = some z) (hsize : i.size = size) (hby : i.bytes = bytes) (hzs : z.cells.size = size)
    (v : Value) (n : Nat) (xs : List Value) (hv : a.eval s = v) (hown : w.ownsRow base e size v n xs) (y : Value) (m : Nat) (news : List Value) (hx : a.eval x = y) (hs : Src P size tx y m news w)
    (h63 : n + m ≤ maxLen) (hbytes : (n + m + (n + m) / 4 + 192) * bytes ≤ 281474976710656) (hbase : base ≤ w.heap.size)
    (h : ∀ v' w', w'.ownsRow base e size v' (n + m) (xs ++ news) → w.grownBy w' v.ownBlock → Moved w v v' → K (a.put o.dst v') w') : if Region.wanted o (yielded ops a.tmps) = true then Oper.wp P o a w K Q else E := by
  subst hby
  have hw : Region.wanted o (yielded ops a.tmps) = true := by simp [Region.wanted, hgd]
  rw [if_pos hw]
  obtain ⟨v', w', hr, h2, h3, h4⟩ := run_appW (P := P) w base t tx o.type e i z size ht hi hz hsize hzs v n xs hown y m news hs h63 hbytes hbase
  unfold Oper.wp execOp
  simp only [ho, resolve, invoke, builtin, Sem.run_bind, Sem.run_pure, Result.andThen_ok, List.map_toArray, List.map_cons, List.map_nil, hv, hx, hr]
  exact h v' w' h2 h3 h4
theorem src_ndA {P : Program} {tx e : TypeId} (hu : P.underlying tx = some (.slice e)) {W : World} {b : Nat} (d : Nod) {t : TypeId} (h : W.heap[b]? = some (.cells #[.int .u64 d.id, .int .u64 d.par, .int .i64 d.org, .int .u64 d.tree, .int .i64 d.dep, .int .i64 d.fr, .int .i64 d.til] t (0, 0))) : Src P 7 tx (.slice (some ⟨b, 0, none⟩) 1 1) 1 (ndL d) W := by
  refine Src.ofSlice _ hu ⟨b, 0, none⟩ 1 1 _ rfl ?_ ?_
  · intro j u hj
    unfold ndL at hj
    match j, hj with
    | 0, hj => simp at hj; subst hj; simp [Addr.add, World.cell?, h]
    | 1, hj => simp at hj; subst hj; simp [Addr.add, World.cell?, h]
    | 2, hj => simp at hj; subst hj; simp [Addr.add, World.cell?, h]
    | 3, hj => simp at hj; subst hj; simp [Addr.add, World.cell?, h]
    | 4, hj => simp at hj; subst hj; simp [Addr.add, World.cell?, h]
    | 5, hj => simp at hj; subst hj; simp [Addr.add, World.cell?, h]
    | 6, hj => simp at hj; subst hj; simp [Addr.add, World.cell?, h]
    | j + 7, hj => simp at hj
  · intro u hu
    simp only [ndL, List.mem_cons, List.not_mem_nil, or_false] at hu
    rcases hu with rfl | rfl | rfl | rfl | rfl | rfl | rfl <;> rfl
theorem owns_cut {w : World} {base s n d cap : Nat} {e : TypeId} {ad : Option Addr} {xs : List Value} (h : w.ownsRow base e s (.slice ad n cap) n xs) (hd : d ≤ n) : w.ownsRow base e s (.slice ad d cap) d (xs.take (d * s)) := by
  have hm : d * s ≤ n * s := Nat.mul_le_mul_right _ hd
  refine ⟨by rw [List.length_take, h.1]; omega, ?_⟩
  rcases h.2 with ⟨h', hn⟩ | ⟨g, cp, cur, e1, hb, hg, r1, r2, r3, r4⟩
  · cases h'
    exact Or.inl ⟨by obtain rfl : d = 0 := (by omega); rfl, by omega⟩
  · simp only [Value.slice.injEq] at e1
    obtain ⟨rfl, _, rfl⟩ := e1
    refine Or.inr ⟨g, cap, cur, rfl, hb, hg, by omega, r2, r3, ?_⟩
    rw [← r4, List.take_take, Nat.min_eq_left hm]
theorem flat_take (fin : Nat → Nod) (P : List Nat) (d : Nat) : (P.flatMap (fun x => ndL (fin x))).take (d * 7) = (P.take d).flatMap (fun x => ndL (fin x)) := by
  induction P generalizing d with
  | nil => simp
  | cons x r ih =>
    cases d with
    | zero => simp
    | succ d =>
      rw [List.take_succ_cons, List.flatMap_cons, List.flatMap_cons, ← ih d, show (d + 1) * 7 = (ndL (fin x)).length + d * 7 by simp [ndL]; omega, List.take_length_add_append]
theorem flat_cell (fin : Nat → Nod) : ∀ (P : List Nat) (i j : Nat) (h : i < P.length) (v : Value), (ndL (fin P[i]))[j]? = some v → (P.flatMap (fun x => ndL (fin x)))[i * 7 + j]? = some v
  | [], i, _, h, _, _ => by simp at h
  | x :: r, 0, j, _, v, hv => by
    simp only [List.flatMap_cons, Nat.zero_mul, Nat.zero_add, List.getElem_cons_zero] at hv ⊢
    rw [List.getElem?_append_left (List.getElem?_eq_some_iff.1 hv).1]
    exact hv
  | x :: r, i + 1, j, h, v, hv => by
    rw [List.flatMap_cons, show (i + 1) * 7 + j = (ndL (fin x)).length + (i * 7 + j) by simp [ndL]; omega, List.getElem?_append_right (by omega), Nat.add_sub_cancel_left]
    exact flat_cell fin r i j (by simpa using h) v (by simpa using hv)
set_option maxHeartbeats 8000000 in
theorem fits_any (f sb : Nat) (X : List Spot) (K : Nat → List Int) (rvv : Value) (R : List Int) (fin : Nat → Nod) (KN : Nat → List Nat) (base n cap : Nat) (ad : Option Addr) (L : List Nat) (W : World) (hF : ForestAt W f sb X K rvv R) (nd : ∀ i (h : i < X.length), X[i].nd = fin i) (kn : ∀ i, i < X.length → K i = (KN i).map (fun c : Nat => (c : Int)) ∧ (∀ c ∈ KN i, c < X.length) ∧ (KN i).length ≤ 1000) (hL : ∀ x ∈ L, x < X.length) (hn : L.length = n) (hl : n ≤ 1000) (hrow : W.ownsRow base 49 7 (.slice ad n cap) n (L.flatMap (fun x => ndL (fin x)))) (hA : OkL fin [] L) (hS : R.length + sumK KN L = n) :
    Calls Tryz.prog 24 #[.pointer (some ⟨f, 0, none⟩), .slice ad n cap] W fun e W' => e = .returned (.bool true) ∧ Below W.heap.size W W' := by
  obtain ⟨i0, hi0, hz0, hz1, hz2⟩ := infoNd_parts
  have RT := roots_any f sb X K rvv R W hF
  have EL : Hid (∀ (i : Nat), i < n → ∃ (x : Nat), L[i]? = some x ∧ (KN x).length ≤ 1000 ∧ (∃ g, ad = some ⟨g, 0, none⟩ ∧ ∀ V, Below W.heap.size W V → V.cell? ⟨g, i * 7, none⟩ = some (.int .u64 (fin x).id) ∧ V.cell? ⟨g, i * 7 + 1, none⟩ = some (.int .u64 (fin x).par) ∧ V.cell? ⟨g, i * 7 + 2, none⟩ = some (.int .i64 (fin x).org) ∧ V.cell? ⟨g, i * 7 + 3, none⟩ = some (.int .u64 (fin x).tree) ∧ V.cell? ⟨g, i * 7 + 4, none⟩ = some (.int .i64 (fin x).dep) ∧ V.cell? ⟨g, i * 7 + 5, none⟩ = some (.int .i64 (fin x).fr) ∧ V.cell? ⟨g, i * 7 + 6, none⟩ = some (.int .i64 (fin x).til)) ∧ ∀ V, Below W.heap.size W V → Calls Tryz.prog 16 #[.pointer (some ⟨f, 0, none⟩), .int .u64 (fin x).id] V fun e w' => ∃ r, e = .returned (.slice (some ⟨r, 0, none⟩) (KN x).length (KN x).length) ∧ Below V.heap.size V w') := fun i hi => by
    have hi' : i < L.length := by omega
    have hx := hL _ (List.getElem_mem hi')
    obtain ⟨k1, k2, k3⟩ := kn _ hx
    refine ⟨L[i], List.getElem?_eq_getElem hi', k3, ?_, fun V hb => ?_⟩
    · obtain ⟨n', hn'⟩ : ∃ n', n = n' + 1 := ⟨n - 1, by omega⟩
      subst hn'
      obtain ⟨g, rfl⟩ := owns_some hrow
      refine ⟨g, rfl, fun V hb => ?_⟩
      have hgl : g < W.heap.size := by
        obtain ⟨_, cur, hg⟩ := row_block hrow (g := g) rfl
        exact (Array.getElem?_eq_some_iff.1 hg).1
      have cell : ∀ j v, (ndL (fin L[i]))[j]? = some v → V.cell? ⟨g, i * 7 + j, none⟩ = some v := fun j v hv => by
        have h1 := hrow.cells (g := g) rfl (i * 7 + j) v (flat_cell fin L i j hi' v hv)
        rw [Addr.add_lit, Nat.zero_add] at h1
        exact (hb.cell (p := ⟨g, i * 7 + j, none⟩) hgl).trans h1
      exact ⟨cell 0 _ rfl, cell 1 _ rfl, cell 2 _ rfl, cell 3 _ rfl, cell 4 _ rfl, cell 5 _ rfl, cell 6 _ rfl⟩
    · refine (children_at f sb X K rvv R fin KN V (hF.below hb) nd _ hx k1 k2).mono ?_
      rintro e w' ⟨r, rfl, _, _, h4⟩
      exact ⟨r, rfl, h4⟩
  have HA : Hid (OkL fin [] L ∧ L.length = n ∧ R.length + sumK KN L = n) := ⟨hA, hn, hS⟩
  obtain ⟨m, hm⟩ : ∃ m, R.length = m := ⟨_, rfl⟩
  have hn1 : (n : Int) ≤ 1000 := by omega
  have hm1 : (m : Int) ≤ 1000 := by omega
  rw [hm] at RT HA
  clear hF nd kn hL hn hrow hA hS hm
  go_enter Tryz.func24, Tryz.ntmps24
  go_wp2_with (go_at_call 18; refine RT.mono ?_; clear RT; rintro e w3 ⟨rc, rfl, hrc, hrl, hb3⟩; have HB3 : Hid (Below W.heap.size W w3) := hb3; clear hrc hrl hb3)
  go_loopw [5, 6, 7] (fun z5 z6 z7 wr => ∃ (i p : Nat) (P : List Nat) (ad1 : Option Addr) (cap1 : Nat) (s : Nat), z5 = .slice ad1 p cap1 ∧ z6 = .int .i64 s ∧ z7 = .int .i64 i ∧ i ≤ n ∧ P.length = p ∧ p ≤ i ∧ OkL fin P (L.drop i) ∧ s = m + sumK KN (L.take i) ∧ wr.ownsRow W.heap.size 49 7 (.slice ad1 p cap1) p (P.flatMap (fun x => ndL (fin x))) ∧ Below W.heap.size W wr) (fun _ _ z7 _ => n - (intOf z7).toNat)
  case atStart => exact ⟨0, 0, [], none, 0, m, rfl, rfl, rfl, by omega, rfl, by omega, by simpa using HA.out.1, by simp [sumK], by simpa using World.ownsRow_nil w3 W.heap.size 49 7, HB3.out⟩
  case round =>
    obtain ⟨i, p, P, ad1, cap1, s, rfl, rfl, rfl, hin, hPl, hpi, hO, hs, hrow, hb⟩ := hrel
    by_cases hlt : i < n
    · obtain ⟨x, hx, hk1, ⟨g, rfl, hc⟩, hCH⟩ := EL.out i hlt
      have hdr : L.drop i = x :: L.drop (i + 1) := by
        have hi' : i < L.length := by have := HA.out.2.1; omega
        rw [List.drop_eq_getElem_cons hi']
        rw [List.getElem?_eq_getElem hi'] at hx
        rw [Option.some.inj hx]
      rw [hdr] at hO
      obtain ⟨⟨o1, o2, o3⟩, o4⟩ := hO
      have hst : sumK KN (L.take (i + 1)) = sumK KN (L.take i) + (KN x).length := by
        unfold sumK
        rw [List.take_add_one, hx]
        simp
      obtain ⟨dn, hdn⟩ : ∃ dn : Nat, (fin x).dep = (dn : Int) := ⟨(fin x).dep.toNat, by omega⟩
      have hdp : dn ≤ p := by omega
      have hcut := owns_cut hrow hdp
      rw [flat_take] at hcut
      have hcap : dn ≤ cap1 := by
        rcases hrow.2 with ⟨h', h0⟩ | ⟨g1, cp, cur, e1, _, _, r1, _⟩
        · omega
        · simp only [Value.slice.injEq] at e1
          omega
      have hnx : nxP fin P x = P.take dn ++ [x] := by
        unfold nxP
        rw [hdn]
        simp
      rw [hnx] at o4
      have HNEXT : Hid (OkL fin (P.take dn ++ [x]) (L.drop (i + 1)) ∧ (P.take dn ++ [x]).length = dn + 1 ∧ s + (KN x).length = m + sumK KN (L.take (i + 1))) := ⟨o4, by simp; omega, by omega⟩
      have HPAR : Hid (∀ d', dn = d' + 1 → ∃ y, P[d']? = some y ∧ (fin y).id = (fin x).par) := fun d' hd' => by
        have := o3 (by omega)
        rwa [hdn, Int.toNat_natCast, hd', Nat.add_sub_cancel] at this
      have CH : Hid (∀ V, Below W.heap.size W V → Calls Tryz.prog 16 #[.pointer (some ⟨f, 0, none⟩), .int .u64 (fin x).id] V fun e w' => ∃ r, e = .returned (.slice (some ⟨r, 0, none⟩) (KN x).length (KN x).length) ∧ Below V.heap.size V w') := hCH
      obtain ⟨a0, a1, a2, a3, a4, a5, a6⟩ := hc wr hb
      obtain ⟨δ, hδ⟩ : ∃ δ, (fin x).dep = δ := ⟨_, rfl⟩
      have hδe : Hid (δ = (dn : Int)) := by show δ = (dn : Int); omega
      have htn : δ.toNat = dn := by omega
      rw [hδ] at a4
      have HROW : Hid (wr.ownsRow W.heap.size 49 7 (.slice ad1 dn cap1) dn ((P.take dn).flatMap (fun x => ndL (fin x)))) := hcut
      have HB : Hid (Below W.heap.size W wr) := hb
      have hsz := hb.size
      have hin' : (i : Int) < (n : Int) := by omega
      have hdp' : δ ≤ (p : Int) := by omega
      have hcap' : δ ≤ (cap1 : Int) := by omega
      have hdn1 : δ ≤ 1000 := by omega
      have hδ0 : 0 ≤ δ := by omega
      have hd0 : decide (δ < 0) = false := decide_eq_false (by omega)
      have hpd : decide ((p : Int) < δ) = false := decide_eq_false (by omega)
      have hs1 : (s : Int) ≤ 100000000 := by
        have : sumK KN (L.take i) ≤ n := by
          have h1 := HA.out.2.2
          have h2 : sumK KN L = sumK KN (L.take i) + sumK KN (L.drop i) := by
            unfold sumK
            rw [← List.sum_append, ← List.map_append, List.take_append_drop]
          omega
        omega
      obtain ⟨c, hcK⟩ : ∃ c, (KN x).length = c := ⟨_, rfl⟩
      rw [hcK] at hk1 HNEXT CH
      have hk1' : (c : Int) ≤ 1000 := by omega
      have HDN : Hid (ndL (fin x) = [.int .u64 (fin x).id, .int .u64 (fin x).par, .int .i64 (fin x).org, .int .u64 (fin x).tree, .int .i64 δ, .int .i64 (fin x).fr, .int .i64 (fin x).til]) := by
        show ndL (fin x) = _
        unfold ndL
        rw [hδ]
      have HAD : ad1 = none ∧ p = 0 ∧ cap1 = 0 ∨ ∃ g1, ad1 = some ⟨g1, 0, none⟩ := by
        rcases hrow.2 with ⟨h', h0⟩ | ⟨g1, cp, cur, e1, _⟩
        · cases h'
          exact Or.inl ⟨rfl, rfl, rfl⟩
        · simp only [Value.slice.injEq] at e1
          exact Or.inr ⟨g1, e1.1⟩
      clear hdn hc hCH hx hdr o1 o2 o3 o4 hst hnx hcut hrow hb hs hPl EL HA hcK hδ HB3 hlt hin
      go_upto_region 9 with fail
      obtain ⟨V, hV⟩ : ∃ V, wr.alloc (.cells #[.int .u64 (fin x).id, .int .u64 (fin x).par, .int .i64 (fin x).org, .int .u64 (fin x).tree, .int .i64 δ, .int .i64 (fin x).fr, .int .i64 (fin x).til] 49) = V := ⟨_, rfl⟩
      have nV : Blk V wr.heap.size #[.int .u64 (fin x).id, .int .u64 (fin x).par, .int .i64 (fin x).org, .int .u64 (fin x).tree, .int .i64 δ, .int .i64 (fin x).fr, .int .i64 (fin x).til] 49 := by rw [← hV]; exact Blk.new _ _ _
      have bV : Below wr.heap.size wr V := by rw [← hV]; exact (Below.refl _ _).alloc (Nat.le_refl _) _
      have sV : wr.heap.size < V.heap.size := by rw [← hV]; simp
      have n0 : V.cell? ⟨wr.heap.size, 0, none⟩ = some (.int .u64 (fin x).id) := nV.cell 0 rfl
      have n1 : V.cell? ⟨wr.heap.size, 1, none⟩ = some (.int .u64 (fin x).par) := nV.cell 1 rfl
      have n2 : V.cell? ⟨wr.heap.size, 2, none⟩ = some (.int .i64 (fin x).org) := nV.cell 2 rfl
      have n3 : V.cell? ⟨wr.heap.size, 3, none⟩ = some (.int .u64 (fin x).tree) := nV.cell 3 rfl
      have n4 : V.cell? ⟨wr.heap.size, 4, none⟩ = some (.int .i64 δ) := nV.cell 4 rfl
      have n5 : V.cell? ⟨wr.heap.size, 5, none⟩ = some (.int .i64 (fin x).fr) := nV.cell 5 rfl
      have n6 : V.cell? ⟨wr.heap.size, 6, none⟩ = some (.int .i64 (fin x).til) := nV.cell 6 rfl
      have HOK : Hid (∀ u, Below V.heap.size V u → u.ownsRow W.heap.size 49 7 (.slice ad1 dn cap1) dn ((P.take dn).flatMap (fun x => ndL (fin x)))) := fun u hu => ownsRow_upd (ownsRow_upd HROW.out (Upd.ofBelow (S := fun _ => False) bV (fun k h1 h2 => by omega)) (fun _ _ h => h)) (Upd.ofBelow (S := fun _ => False) hu (fun k h1 h2 => by omega)) (fun _ _ h => h)
      have HAF : Hid (∀ (u2 u3 : World), Below V.heap.size V u2 → u2.grownBy u3 (Value.slice ad1 dn cap1).ownBlock → Below W.heap.size W u3 ∧ Blk u3 wr.heap.size #[.int .u64 (fin x).id, .int .u64 (fin x).par, .int .i64 (fin x).org, .int .u64 (fin x).tree, .int .i64 δ, .int .i64 (fin x).fr, .int .i64 (fin x).til] 49) := fun u2 u3 hu hg => by
        have hr := HROW.out
        have hu' := hu.size
        refine ⟨(HB.out.trans (bV.mono hsz)).trans ((hu.mono (by omega)).trans ⟨hg.os, hg.tape, hg.output, hg.size, fun k hk => hg.block k (by omega) (fun e => ?_)⟩), (hg.block _ (by omega) (fun e => ?_)).trans (nV.below hu nV.lt)⟩
        · have := (row_block hr e.symm).1
          omega
        · obtain ⟨_, cur, h2⟩ := row_block hr e.symm
          have := (Array.getElem?_eq_some_iff.1 h2).1
          omega
      have hdl : Hid (dn ≤ 1000) := by show dn ≤ 1000; omega
      rw [hV]
      clear hV nV bV a0 a1 a2 a3 a4 a5 a6
      have hWV : W.heap.size ≤ V.heap.size := by omega
      rcases HAD with ⟨rfl, rfl, rfl⟩ | ⟨g1, rfl⟩
      · obtain rfl : dn = 0 := by omega
        obtain rfl : δ = 0 := by have := hδe.out; omega
        go_region_law (refine step_appF _ (by rfl) _ _ 30 30 (by rfl) W.heap.size 49 i0 (.agg #[.int .u64 0, .int .u64 0, .int .i64 0, .int .u64 0, .int .i64 0, .int .i64 0, .int .i64 0]) 7 56 Tryz.underlying30 hi0 hz0 hz1 hz2 rfl (.slice none 0 0) 0 ((P.take 0).flatMap (fun x => ndL (fin x))) (by rfl) (HOK.out _ (by repeat' first | exact Below.refl _ _ | refine Below.alloc ?_ (by first | omega | (simp; omega) | (simp; done)) _ | refine Below.drew ?_)) (.slice (some ⟨V.heap.size, 0, none⟩) 1 1) 1 [.int .u64 (fin x).id, .int .u64 (fin x).par, .int .i64 (fin x).org, .int .u64 (fin x).tree, .int .i64 0, .int .i64 (fin x).fr, .int .i64 (fin x).til] (by rfl) (by rw [← HDN.out]; exact src_ndA Tryz.underlying30 (fin x) (by first | exact heap_alloc_new _ _ | exact heap_alloc_new V.drew _)) (by have := hdl.out; unfold maxLen; omega) (by have := hdl.out; omega) (by first | (simp; omega) | omega) ?_; intro v8 w8 o8 g8 m8; obtain ⟨ad8, cap8, rfl⟩ := owns_sliceS o8; obtain ⟨b8, n8⟩ := HAF.out _ w8 (by repeat' first | exact Below.refl _ _ | refine Below.alloc ?_ (by first | omega | (simp; omega) | (simp; done)) _ | refine Below.drew ?_) g8; have H8 : Hid (w8.ownsRow W.heap.size 49 7 (.slice ad8 (0 + 1) cap8) (0 + 1) ((P.take 0).flatMap (fun x => ndL (fin x)) ++ [.int .u64 (fin x).id, .int .u64 (fin x).par, .int .i64 (fin x).org, .int .u64 (fin x).tree, .int .i64 0, .int .i64 (fin x).fr, .int .i64 (fin x).til])) := o8; have HB8 : Hid (Below W.heap.size W w8) := b8; have HN8 : Hid (Blk w8 wr.heap.size #[.int .u64 (fin x).id, .int .u64 (fin x).par, .int .i64 (fin x).org, .int .u64 (fin x).tree, .int .i64 0, .int .i64 (fin x).fr, .int .i64 (fin x).til] 49) := n8; clear o8 g8 m8 b8 n8)
        all_goals
          simp only [Act.put, List.getElem_toArray, List.getElem_cons_succ, List.getElem_cons_zero, List.setIfInBounds_toArray, List.set_cons_zero, List.set_cons_succ]
          obtain ⟨gp, hgp⟩ : ∃ gp, ad8 = some ⟨gp, 0, none⟩ := owns_some H8.out
          subst hgp
          have m0 : w8.cell? ⟨wr.heap.size, 0, none⟩ = some (.int .u64 (fin x).id) := HN8.out.cell 0 rfl
          have m1 : w8.cell? ⟨wr.heap.size, 1, none⟩ = some (.int .u64 (fin x).par) := HN8.out.cell 1 rfl
          have m4 : w8.cell? ⟨wr.heap.size, 4, none⟩ = some (.int .i64 0) := HN8.out.cell 4 rfl
          clear n0 n1 n2 n3 n4 n5 n6 HOK HAF
          have dd : decide ((0 : Int) < 0) = false := decide_eq_false (by omega)
          go_wp2
          go_quiet (fail)
          go_upto_region 12 with fail
          obtain ⟨w10, hw10⟩ : ∃ w10, w8.drewN nq = w10 := ⟨_, rfl⟩
          have HB9 : Hid (Below W.heap.size W w10) := by rw [← hw10]; exact HB8.out.trans ⟨rfl, rfl, rfl, Nat.le_refl _, fun _ _ => rfl⟩
          have m0' : w10.cell? ⟨wr.heap.size, 0, none⟩ = some (.int .u64 (fin x).id) := by rw [← hw10]; exact m0
          have H10 : Hid (w10.ownsRow W.heap.size 49 7 (.slice (some ⟨gp, 0, none⟩) (0 + 1) cap8) (0 + 1) ((P.take 0).flatMap (fun x => ndL (fin x)) ++ [.int .u64 (fin x).id, .int .u64 (fin x).par, .int .i64 (fin x).org, .int .u64 (fin x).tree, .int .i64 0, .int .i64 (fin x).fr, .int .i64 (fin x).til])) := by rw [← hw10]; exact H8.out.drew
          rw [hw10]
          clear hw10
          go_wp2_with (go_at_call 16; refine (CH.out _ HB9.out).mono ?_; clear CH; rintro e w9 ⟨rch, rfl, hb9⟩; have HB10 : Hid (Below w10.heap.size w10 w9) := hb9; clear hb9)
          go_roundw
          case rel =>
            refine ⟨i + 1, 0 + 1, P.take 0 ++ [x], _, cap8, s + c, rfl, by simp, by simp, by omega, HNEXT.out.2.1, by omega, HNEXT.out.1, HNEXT.out.2.2, ?_, HB9.out.trans (HB10.out.mono HB9.out.size)⟩
            have h8 := H10.out
            rw [← HDN.out] at h8
            rw [List.flatMap_append]
            have h9 := ownsRow_upd h8 (Upd.ofBelow (S := fun _ => False) HB10.out (fun k h1 h2 => by omega)) (fun _ _ h => h)
            simpa using h9
          case measure => (simp [intOf]; try omega)
      · go_region_law (refine step_appF _ (by rfl) _ _ 30 30 (by rfl) W.heap.size 49 i0 (.agg #[.int .u64 0, .int .u64 0, .int .i64 0, .int .u64 0, .int .i64 0, .int .i64 0, .int .i64 0]) 7 56 Tryz.underlying30 hi0 hz0 hz1 hz2 rfl (.slice (some ⟨g1, 0, none⟩) dn cap1) dn ((P.take dn).flatMap (fun x => ndL (fin x))) (by rfl) (HOK.out _ (by repeat' first | exact Below.refl _ _ | refine Below.alloc ?_ (by first | omega | (simp; omega) | (simp; done)) _ | refine Below.drew ?_)) (.slice (some ⟨V.heap.size, 0, none⟩) 1 1) 1 [.int .u64 (fin x).id, .int .u64 (fin x).par, .int .i64 (fin x).org, .int .u64 (fin x).tree, .int .i64 δ, .int .i64 (fin x).fr, .int .i64 (fin x).til] (by rfl) (by rw [← HDN.out]; exact src_ndA Tryz.underlying30 (fin x) (by first | exact heap_alloc_new _ _ | exact heap_alloc_new V.drew _)) (by have := hdl.out; unfold maxLen; omega) (by have := hdl.out; omega) (by first | (simp; omega) | omega) ?_; intro v8 w8 o8 g8 m8; obtain ⟨ad8, cap8, rfl⟩ := owns_sliceS o8; obtain ⟨b8, n8⟩ := HAF.out _ w8 (by repeat' first | exact Below.refl _ _ | refine Below.alloc ?_ (by first | omega | (simp; omega) | (simp; done)) _ | refine Below.drew ?_) g8; have H8 : Hid (w8.ownsRow W.heap.size 49 7 (.slice ad8 (dn + 1) cap8) (dn + 1) ((P.take dn).flatMap (fun x => ndL (fin x)) ++ [.int .u64 (fin x).id, .int .u64 (fin x).par, .int .i64 (fin x).org, .int .u64 (fin x).tree, .int .i64 δ, .int .i64 (fin x).fr, .int .i64 (fin x).til])) := o8; have HB8 : Hid (Below W.heap.size W w8) := b8; have HN8 : Hid (Blk w8 wr.heap.size #[.int .u64 (fin x).id, .int .u64 (fin x).par, .int .i64 (fin x).org, .int .u64 (fin x).tree, .int .i64 δ, .int .i64 (fin x).fr, .int .i64 (fin x).til] 49) := n8; clear o8 g8 m8 b8 n8)
        all_goals
          simp only [Act.put, List.getElem_toArray, List.getElem_cons_succ, List.getElem_cons_zero, List.setIfInBounds_toArray, List.set_cons_zero, List.set_cons_succ]
          obtain ⟨gp, hgp⟩ : ∃ gp, ad8 = some ⟨gp, 0, none⟩ := owns_some H8.out
          subst hgp
          have m0 : w8.cell? ⟨wr.heap.size, 0, none⟩ = some (.int .u64 (fin x).id) := HN8.out.cell 0 rfl
          have m1 : w8.cell? ⟨wr.heap.size, 1, none⟩ = some (.int .u64 (fin x).par) := HN8.out.cell 1 rfl
          have m4 : w8.cell? ⟨wr.heap.size, 4, none⟩ = some (.int .i64 δ) := HN8.out.cell 4 rfl
          clear n0 n1 n2 n3 n4 n5 n6 HOK HAF
          by_cases hd : dn = 0
          · have dd : decide (0 < δ) = false := decide_eq_false (by have := hδe.out; omega)
            clear hd
            go_wp2
            go_quiet (fail)
            go_upto_region 12 with fail
            obtain ⟨w10, hw10⟩ : ∃ w10, w8.drewN nq = w10 := ⟨_, rfl⟩
            have HB9 : Hid (Below W.heap.size W w10) := by rw [← hw10]; exact HB8.out.trans ⟨rfl, rfl, rfl, Nat.le_refl _, fun _ _ => rfl⟩
            have m0' : w10.cell? ⟨wr.heap.size, 0, none⟩ = some (.int .u64 (fin x).id) := by rw [← hw10]; exact m0
            have H10 : Hid (w10.ownsRow W.heap.size 49 7 (.slice (some ⟨gp, 0, none⟩) (dn + 1) cap8) (dn + 1) ((P.take dn).flatMap (fun x => ndL (fin x)) ++ [.int .u64 (fin x).id, .int .u64 (fin x).par, .int .i64 (fin x).org, .int .u64 (fin x).tree, .int .i64 δ, .int .i64 (fin x).fr, .int .i64 (fin x).til])) := by rw [← hw10]; exact H8.out.drew
            rw [hw10]
            clear hw10
            go_wp2_with (go_at_call 16; refine (CH.out _ HB9.out).mono ?_; clear CH; rintro e w9 ⟨rch, rfl, hb9⟩; have HB10 : Hid (Below w10.heap.size w10 w9) := hb9; clear hb9)
            go_roundw
            case rel =>
              refine ⟨i + 1, dn + 1, P.take dn ++ [x], _, cap8, s + c, rfl, by simp, by simp, by omega, HNEXT.out.2.1, by omega, HNEXT.out.1, HNEXT.out.2.2, ?_, HB9.out.trans (HB10.out.mono HB9.out.size)⟩
              have h8 := H10.out
              rw [← HDN.out] at h8
              rw [List.flatMap_append]
              have h9 := ownsRow_upd h8 (Upd.ofBelow (S := fun _ => False) HB10.out (fun k h1 h2 => by omega)) (fun _ _ h => h)
              simpa using h9
            case measure => (simp [intOf]; try omega)
          · obtain ⟨d', hd'⟩ : ∃ d', dn = d' + 1 := ⟨dn - 1, by omega⟩
            obtain ⟨y, hy, hyp⟩ := HPAR.out d' hd'
            have cp : w8.cell? ⟨gp, d' * 7, none⟩ = some (.int .u64 (fin x).par) := by
              have hy' : d' < (P.take dn).length := by
                have := (List.getElem?_eq_some_iff.1 hy).1
                rw [List.length_take]
                omega
              have e1 : (P.take dn)[d'] = y := by
                rw [List.getElem_take]
                exact (List.getElem?_eq_some_iff.1 hy).2
              have h1 := flat_cell fin (P.take dn) d' 0 hy' (.int .u64 (fin x).par) (by rw [e1, ← hyp]; rfl)
              have h2 : ((P.take dn).flatMap (fun x => ndL (fin x)) ++ [.int .u64 (fin x).id, .int .u64 (fin x).par, .int .i64 (fin x).org, .int .u64 (fin x).tree, .int .i64 δ, .int .i64 (fin x).fr, .int .i64 (fin x).til])[d' * 7 + 0]? = some (.int .u64 (fin x).par) := by
                rw [List.getElem?_append_left (List.getElem?_eq_some_iff.1 h1).1]
                exact h1
              have h3 := H8.out.cells (g := gp) rfl (d' * 7 + 0) _ h2
              rwa [Addr.add_lit, Nat.zero_add] at h3
            have dd : decide (0 < δ) = true := decide_eq_true (by have := hδe.out; omega)
            have hsub : δ - 1 = (d' : Int) := by have := hδe.out; omega
            have hwr : IntKind.i64.wrap (d' : Int) = (d' : Int) := by simp [IntKind.wrap, IntKind.bits, IntKind.signed]; omega
            have hdi : (d' : Int) < (dn : Int) + 1 := by omega
            clear hy hyp hd' hd
            go_wp2
            go_region
            go_upto_region 12 with fail
            obtain ⟨w10, hw10⟩ : ∃ w10, w8.drew = w10 := ⟨_, rfl⟩
            have HB9 : Hid (Below W.heap.size W w10) := by rw [← hw10]; exact HB8.out.trans ⟨rfl, rfl, rfl, Nat.le_refl _, fun _ _ => rfl⟩
            have m0' : w10.cell? ⟨wr.heap.size, 0, none⟩ = some (.int .u64 (fin x).id) := by rw [← hw10]; exact m0
            have H10 : Hid (w10.ownsRow W.heap.size 49 7 (.slice (some ⟨gp, 0, none⟩) (dn + 1) cap8) (dn + 1) ((P.take dn).flatMap (fun x => ndL (fin x)) ++ [.int .u64 (fin x).id, .int .u64 (fin x).par, .int .i64 (fin x).org, .int .u64 (fin x).tree, .int .i64 δ, .int .i64 (fin x).fr, .int .i64 (fin x).til])) := by rw [← hw10]; exact H8.out.drew
            rw [hw10]
            clear hw10
            go_wp2_with (go_at_call 16; refine (CH.out _ HB9.out).mono ?_; clear CH; rintro e w9 ⟨rch, rfl, hb9⟩; have HB10 : Hid (Below w10.heap.size w10 w9) := hb9; clear hb9)
            go_roundw
            case rel =>
              refine ⟨i + 1, dn + 1, P.take dn ++ [x], _, cap8, s + c, rfl, by simp, by simp, by omega, HNEXT.out.2.1, by omega, HNEXT.out.1, HNEXT.out.2.2, ?_, HB9.out.trans (HB10.out.mono HB9.out.size)⟩
              have h8 := H10.out
              rw [← HDN.out] at h8
              rw [List.flatMap_append]
              have h9 := ownsRow_upd h8 (Upd.ofBelow (S := fun _ => False) HB10.out (fun k h1 h2 => by omega)) (fun _ _ h => h)
              simpa using h9
            case measure => (simp [intOf]; try omega)
    · have hni : ¬ (i : Int) < (n : Int) := by omega
      have e : s = n := by
        have h1 := HA.out.2.2
        rw [List.take_of_length_le (by have := HA.out.2.1; omega)] at hs
        omega
      subst e
      have HB : Hid (Below W.heap.size W wr) := hb
      clear hb hrow hO hs EL HA
      go_wp2
      go_ret
      exact ⟨rfl, HB.out⟩
end Go.Proofs.YtbdkaanmkegfiaaGreatDoor

namespace Go.Proofs.YtbdkaanmkegfiaaGreatDoor
open Go Go.RowKit
set_option maxRecDepth 100000

section
variable {Y : List Sp} {C : List Int} {dp : Nat → Nat} {fin : Nat → Nod} {X : List Spot} {K : Nat → List Int} {R : List Int}
theorem FoB.nd (h : FoB Y C dp fin X K R) (i : Nat) (hi : i < X.length) : X[i].nd = fin i := (h.fo.each i (by rw [← h.fo.len]; exact hi) hi).2
theorem FoB.kn (h : FoB Y C dp fin X K R) (i : Nat) (hi : i < X.length) : K i = (knK K i).map (fun c : Nat => (c : Int)) ∧ (∀ c ∈ knK K i, c < X.length) ∧ (knK K i).length ≤ 1000 := by
  have hi' : i < Y.length := by rw [← h.fo.len]; exact hi
  have hlen := h.fo.len
  have hl := h.one.len
  refine ⟨?_, fun c hc => by rw [hlen]; exact ((h.mem i hi' c).1 hc).1, ?_⟩
  · rw [List.map_map]
    have : ∀ z ∈ K i, ((fun c : Nat => (c : Int)) ∘ Int.toNat) z = z := fun z hz => by
      have := h.pos i hi' z hz
      show ((z.toNat : Nat) : Int) = z
      omega
    exact (List.map_congr_left this).trans (List.map_id _) |>.symm
  · have := sub_len _ (List.range Y.length) (h.nodup i hi') (fun c hc => List.mem_range.2 ((h.mem i hi' c).1 hc).1)
    simp only [List.length_range] at this
    omega
theorem FoB.idInjR (h : FoB Y C dp fin X K R) {i j : Nat} (hi : i < Y.length) (hj : j < Y.length) (e : (fin i).id = (fin j).id) : i = j := by
  have hl := h.fo.len
  refine rise_same h.rise (by omega) (by omega) ?_
  rw [h.nd i (by omega), h.nd j (by omega)]
  exact e
theorem FoB.ltOf (h : FoB Y C dp fin X K R) {a b : Nat} (ha : a < Y.length) (hb : b < Y.length) (hab : a ≠ b) (hn : ¬ ltK (fin b) (fin a)) : ltK (fin a) (fin b) := by
  have : (fin a).id ≠ (fin b).id := fun e => hab (h.idInjR ha hb e)
  unfold ltK at hn ⊢
  omega
theorem FoB.sortL (h : FoB Y C dp fin X K R) (L : List Int) (hm : ∀ z ∈ L, 0 ≤ z ∧ z < Y.length) (hn : (L.map Int.toNat).Nodup) (hs : L.Pairwise (fun a b => ¬ ltK (fin b.toNat) (fin a.toNat))) (i : Nat) (hi : i + 1 < (L.map Int.toNat).length) : ltK (fin ((L.map Int.toNat)[i]'(by omega))) (fin (L.map Int.toNat)[i + 1]) := by
  have hi' : i + 1 < L.length := by simpa using hi
  simp only [List.getElem_map]
  have m0 := hm _ (List.getElem_mem (show i < L.length by omega))
  have m1 := hm _ (List.getElem_mem hi')
  refine h.ltOf (by omega) (by omega) (fun e => ?_) (List.pairwise_iff_getElem.1 hs i (i + 1) (by omega) hi' (by omega))
  have := List.pairwise_iff_getElem.1 (List.nodup_iff_pairwise_ne.1 hn) i (i + 1) (by simpa using (show i < L.length by omega)) (by simpa using hi') (by omega)
  exact this (by simp only [List.getElem_map]; exact e)
theorem FoB.idsL (h : FoB Y C dp fin X K R) (L : List Int) (hm : ∀ z ∈ L, 0 ≤ z ∧ z < Y.length) : idsOf X L = (L.map Int.toNat).map (fun c => (fin c).id) := by
  unfold idsOf
  rw [List.map_map]
  refine List.map_congr_left fun z hz => ?_
  obtain ⟨z0, z1⟩ := hm z hz
  have hl : z.toNat < X.length := by rw [h.fo.len]; omega
  simp [hl, h.nd z.toNat hl]
theorem FoB.orgZ (h : FoB Y C dp fin X K R) (i : Nat) (hi : i < Y.length) : (dp i = 0 → (fin i).org ≠ 0) ∧ (0 < dp i → (fin i).org = 0) := by
  have hcl : (cutX C (zs Y)).length = Y.length := by rw [cutX_len, zs_len]
  have hi' : i < (cutX C (zs Y)).length := by omega
  obtain ⟨hz, z1, z2⟩ := zs_get Y i hi
  obtain ⟨o1, o2, o3⟩ := cutX_org C (zs Y) i hz hi'
  have zo : (zs Y)[i].nd.org = 0 := by simp [zs, ndOf]
  rcases nmC_range Y C i hi with hn | ⟨j, hj, hn⟩
  · obtain ⟨e0, e⟩ := h.sh.rt i hi' hn
    refine ⟨fun _ => ?_, fun h0 => by omega⟩
    rw [e]
    unfold rootN
    simp only
    split
    · omega
    · split <;> omega
  · obtain ⟨e0, e⟩ := h.sh.kd i j hi' (by omega) hn
    refine ⟨fun h0 => by omega, fun _ => ?_⟩
    rw [e]
    unfold hangN
    simp only
    rw [o3, zo]
    rintro ⟨c, hc, hci⟩
    have hg := cutN_get C (nmY Y) i (by rw [nmY_len]; exact hi)
    have hcn : i < (cutN C (nmY Y)).length := by rw [cutN_len, nmY_len]; exact hi
    rw [getD_eq hcn 0 (-1), if_pos ⟨c, hc, hci⟩] at hg
    have : (cutN C (nmY Y)).getD i (-1) = (j : Int) := hn
    omega
theorem FoB.rtI (h : FoB Y C dp fin X K R) (i : Nat) (hi : i < Y.length) : (fin i).id ∈ (rtN R).map (fun c => (fin c).id) ↔ dp i = 0 := by
  have key : i ∈ rtN R ↔ dp i = 0 := by
    rw [h.rts.2.1 i]
    rcases h.two i hi with ⟨e, e1, _⟩ | ⟨j, hj, e, e1, _⟩
    · exact ⟨fun _ => e1, fun _ => ⟨hi, e⟩⟩
    · exact ⟨fun hh => by omega, fun hh => by omega⟩
  rw [← key]
  constructor
  · intro hm
    obtain ⟨c, hc, e⟩ := List.mem_map.1 hm
    rwa [← h.idInjR ((h.rts.2.1 c).1 hc).1 hi e]
  · exact fun hm => List.mem_map.2 ⟨i, hm, rfl⟩
theorem FoB.riseY (h : FoB Y C dp fin X K R) : Y.Pairwise (fun a b => a.id < b.id) := by
  refine List.pairwise_iff_getElem.2 fun i j hi hj hij => ?_
  have hl := h.fo.len
  have := h.rise i j (by omega) (by omega) hij
  rw [h.nd i (by omega), h.nd j (by omega), ← h.ids i hi, ← h.ids j hj] at this
  simpa [spAt, List.getD, hi, hj] using this
/-- One that hangs: on whom, and how. -/
structure HangK (Y : List Sp) (dp : Nat → Nat) (fin : Nat → Nod) (K : Nat → List Int) (i j : Nat) : Prop where
  jY : j < Y.length
  par : (fin i).par = (fin j).id
  own : (fin i).par = (spAt Y i).par
  tree : (fin j).tree = (fin i).tree
  dep : (fin j).dep = (fin i).dep - 1
  fr : (fin j).fr ≤ (fin i).fr
  til : (fin i).til ≤ (fin j).til
  kid : (fin i).id ∈ (knK K j).map (fun c => (fin c).id)
theorem FoB.hangK (h : FoB Y C dp fin X K R) {i j : Nat} {A : List Nat} (hi : i < Y.length) (hA : AncR (cutN C (nmOf (zs Y))) Y.length i (j :: A)) : HangK Y dp fin K i j := by
  rcases hA.inv with ⟨_, e9⟩ | ⟨j9, B9, hn, hj, _, e9⟩
  · cases e9
  · injection e9 with e9 _
    subst e9
    rcases h.two i hi with ⟨e, _⟩ | ⟨j', hj', e, e1, e2, e3, e4, e5⟩
    · omega
    · have : j' = j := by omega
      subst this
      have hk : i ∈ knK K j' := (h.mem j' hj i).2 ⟨hi, hn⟩
      obtain ⟨k1, k2, _⟩ := h.kid j' hj i hk
      refine ⟨hj, e5, ?_, e4.symm, by omega, k1, k2, List.mem_map.2 ⟨i, hk, rfl⟩⟩
      have hg := cutN_get C (nmY Y) i (by rw [nmY_len]; exact hi)
      have hcn : i < (cutN C (nmY Y)).length := by rw [cutN_len, nmY_len]; exact hi
      rw [getD_eq hcn 0 (-1)] at hg
      have hn' : (cutN C (nmY Y)).getD i (-1) = (j' : Int) := hn
      by_cases hc : ∃ c ∈ C, c.toNat = i
      · rw [if_pos hc] at hg
        omega
      · rw [if_neg hc, hn'] at hg
        have h1 := (nmY_some h.riseY hi hj).1 hg.symm
        rw [e5, ← h.ids j' hj]
        have s1 : spAt Y i = Y[i] := by simp [spAt, List.getD, hi]
        have s2 : spAt Y j' = Y[j'] := by simp [spAt, List.getD, hj]
        rw [s1, s2]
        exact h1
/-- All nodes, as a list. -/
theorem nodesB {f sb : Nat} {rv : Value} {w W : World} (hF : ForestAt w f sb X K rv R) (h : FoB Y C dp fin X K R) (hb : Below w.heap.size w W) (n : Nat) (hn : Y.length = n) :
    Calls Tryz.prog 12 #[.pointer (some ⟨f, 0, none⟩)] W fun e w' => ∃ ad cap, e = .returned (.slice ad n cap) ∧ w'.ownsRow W.heap.size 49 7 (.slice ad n cap) n ((allN K R).flatMap (fun x => ndL (fin x))) ∧ Below W.heap.size W w' := by
  obtain ⟨r1, _, _⟩ := h.rts
  obtain ⟨a1, a2, a3, a4⟩ := h.all
  have e := h.preF_eq 1001 R r1
  have hl : (preF K 1001 R).length = n := by rw [e, List.length_map, ← hn]; exact a4
  have hl1 := h.one.len
  refine (nodesL_any f sb 1001 X K rv R W (hF.below hb) (h.deepF 1001 R r1 a1) _ rfl (by omega)).mono ?_
  rintro e' w' ⟨ad, cap, rfl, h1, h2⟩
  rw [hl] at h1 ⊢
  refine ⟨ad, cap, rfl, ?_, h2⟩
  have e2 : ndsL X (preF K 1001 R) = (allN K R).flatMap (fun x => ndL (fin x)) := by
    unfold ndsL
    rw [e, List.flatMap_map]
    refine flat_ext _ _ _ fun x hx => ?_
    have hx' : x < X.length := by rw [h.fo.len]; exact (a3 x).1 hx
    rw [nthN_get hx', h.nd x hx']
  rw [e2] at h1
  exact h1
theorem rootsB {f sb : Nat} {rv : Value} {w W : World} (hF : ForestAt w f sb X K rv R) (h : FoB Y C dp fin X K R) (hb : Below w.heap.size w W) :
    Calls Tryz.prog 18 #[.pointer (some ⟨f, 0, none⟩)] W fun e w' => ∃ rc, e = .returned (.slice (some ⟨rc, 0, none⟩) (rtN R).length (rtN R).length) ∧ Blk w' rc (fillC .u64 ((rtN R).map (fun c => (fin c).id)) 0) 35 ∧ Below W.heap.size W w' := by
  refine (roots_any f sb X K rv R W (hF.below hb)).mono ?_
  rintro e w' ⟨rc, rfl, h1, _, h3⟩
  rw [h.idsL R h.rts.1] at h1
  exact ⟨rc, by rw [List.length_map], h1, h3⟩
theorem FoB.rlen (h : FoB Y C dp fin X K R) : (rtN R).length ≤ 1000 := by
  have h1 := sub_len _ (List.range Y.length) h.rts.2.2 (fun c hc => List.mem_range.2 ((h.rts.2.1 c).1 hc).1)
  have h2 := h.one.len
  simp only [List.length_range] at h1
  omega
theorem orderB {f sb : Nat} {rv : Value} {w W : World} (hF : ForestAt w f sb X K rv R) (h : FoB Y C dp fin X K R) (hb : Below w.heap.size w W) (rc m cap : Nat) (hm : (rtN R).length = m) (hB : Blk W rc (fillC .u64 ((rtN R).map (fun c => (fin c).id)) 0) 35) :
    Calls Tryz.prog 19 #[.pointer (some ⟨f, 0, none⟩), .slice (some ⟨rc, 0, none⟩) m cap] W fun e W' => e = .returned (.bool true) ∧ Below W.heap.size W W' :=
  ordered_any f sb X K rv R fin (rtN R) rc m cap W (hF.below hb) h.nd (fun c hc => by rw [h.fo.len]; exact ((h.rts.2.1 c).1 hc).1) hm (by have := h.rlen; omega) (fun _ => hB) (fun i hi => h.sortL R h.rts.1 h.rts.2.2 h.fo.roots.2 i hi)
/-- A span's children, in their order; the span is among its parent's. -/
theorem kidsB {f sb : Nat} {rv : Value} {w W : World} (hF : ForestAt w f sb X K rv R) (h : FoB Y C dp fin X K R) (hb : Below w.heap.size w W) (j : Nat) (hj : j < Y.length) :
    Calls Tryz.prog 16 #[.pointer (some ⟨f, 0, none⟩), .int .u64 (fin j).id] W fun e w' => ∃ r, e = .returned (.slice (some ⟨r, 0, none⟩) (knK K j).length (knK K j).length) ∧ Blk w' r (fillC .u64 ((knK K j).map (fun c => (fin c).id)) 0) 35 ∧ Below W.heap.size W w' := by
  have hx : j < X.length := by rw [h.fo.len]; exact hj
  obtain ⟨k1, k2, _⟩ := h.kn j hx
  refine (children_at f sb X K rv R fin (knK K) W (hF.below hb) h.nd j hx k1 k2).mono ?_
  rintro e w' ⟨r, rfl, h1, _, h3⟩
  exact ⟨r, rfl, h1, h3⟩
theorem orderK {f sb : Nat} {rv : Value} {w W : World} (hF : ForestAt w f sb X K rv R) (h : FoB Y C dp fin X K R) (hb : Below w.heap.size w W) (j : Nat) (hj : j < Y.length) (rc m cap : Nat) (hm : (knK K j).length = m) (hB : Blk W rc (fillC .u64 ((knK K j).map (fun c => (fin c).id)) 0) 35) :
    Calls Tryz.prog 19 #[.pointer (some ⟨f, 0, none⟩), .slice (some ⟨rc, 0, none⟩) m cap] W fun e W' => e = .returned (.bool true) ∧ Below W.heap.size W W' := by
  have hx : j < X.length := by rw [h.fo.len]; exact hj
  obtain ⟨_, k2, k3⟩ := h.kn j hx
  have hmem : ∀ z ∈ K j, 0 ≤ z ∧ z < Y.length := fun z hz => by
    have h0 := h.pos j hj z hz
    have := ((h.mem j hj z.toNat).1 (List.mem_map.2 ⟨z, hz, rfl⟩)).1
    omega
  exact ordered_any f sb X K rv R fin (knK K j) rc m cap W (hF.below hb) h.nd k2 hm (by omega) (fun _ => hB) (fun i hi => h.sortL (K j) hmem (h.nodup j hj) (h.fo.kids j hj).2 i hi)
theorem fitsB {f sb : Nat} {rv : Value} {w W : World} (hF : ForestAt w f sb X K rv R) (h : FoB Y C dp fin X K R) (hb : Below w.heap.size w W) (base n cap : Nat) (ad : Option Addr) (hn : Y.length = n) (hrow : W.ownsRow base 49 7 (.slice ad n cap) n ((allN K R).flatMap (fun x => ndL (fin x)))) :
    Calls Tryz.prog 24 #[.pointer (some ⟨f, 0, none⟩), .slice ad n cap] W fun e W' => e = .returned (.bool true) ∧ Below W.heap.size W W' := by
  obtain ⟨a1, _, a3, a4⟩ := h.all
  have hs := sum_pre (knK K) 1001 (rtN R) a1
  have hl1 := h.one.len
  refine fits_any f sb X K rv R fin (knK K) base n cap ad (allN K R) W (hF.below hb) h.nd h.kn (fun x hx => by rw [h.fo.len]; exact (a3 x).1 hx) (by rw [← hn]; exact a4) (by omega) hrow h.okAll ?_
  have e : (rtN R).length = R.length := List.length_map ..
  have : (allN K R).length = (rtN R).length + sumK (knK K) (allN K R) := hs
  omega
end
end Go.Proofs.YtbdkaanmkegfiaaGreatDoor
