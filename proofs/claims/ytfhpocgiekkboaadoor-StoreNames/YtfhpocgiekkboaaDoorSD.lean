/-
  Layer 9 (store): room.
-/
import Derived.Test.YtfhpocgiekkboaaDoorSB
import Derived.Handy
namespace Go.Proofs.YtfhpocgiekkboaaDoor
open Go.RowKit Go.Maps Go.WideMaps
set_option maxRecDepth 100000

def roomI (X : List It) (N : List (Nm × Value)) : Int :=
  if N.any (fun e => decide (1000 < cntE (entE X) e.1.1 + cntE N e.1.1)) = true then 91 else if 100000 < X.length + N.length then 92 else 0
theorem strike_cnt (t : Tc) (ht : TcOk t) (left : Lit → Bool) (hl : left (tkey t) = true) : ∀ N : List (Nm × Value), (∀ e ∈ N, NmOk e.1) → (N.filter (fun e => !(left (tkey e.1.1) && !(tkey e.1.1).sameKey (tkey t)))).length = (N.filter (fun e => !left (tkey e.1.1))).length + cntE N t
  | [], _ => rfl
  | e :: r, h => by
    have ih := strike_cnt t ht left hl r (fun x hx => h x (List.mem_cons_of_mem _ hx))
    have he := (h e (List.mem_cons_self ..)).1
    unfold cntE at ih ⊢
    simp only [Bool.not_and, Bool.not_not] at ih ⊢
    by_cases hx : e.1.1 = t
    · have hs : (tkey t).sameKey (tkey t) = true := WideAt.sameKey_self (lawT.key (key_t t ht))
      simp only [List.filter_cons, hx, hl, hs]
      simp
      omega
    · have hs : (tkey e.1.1).sameKey (tkey t) = false := sameKey_ne (fun e1 => hx (tkey_inj he ht e1))
      simp only [List.filter_cons, hs, hx]
      cases left (tkey e.1.1) <;> simp <;> omega
/-- Within room's loop. -/
structure Rmd (w : World) (nb r : Nat) (TN : List Tc) (X : List It) (N : List (Nm × Value)) (D : DataW Value) (wr : World) (left : Lit → Bool) (cnt lg al : Nat) : Prop where
  rg : wr.ranges Tryd.prog 31 valR nb r (Maps.size D) D left cnt
  below : Below w.heap.size w wr
  all : al = X.length + (N.filter (fun e => !left (tkey e.1.1))).length
  low : ∀ t, t ∈ TN → left (tkey t) = false → cntE (entE X) t + cntE N t ≤ lg
  att : lg = 0 ∨ ∃ t, t ∈ TN ∧ lg = cntE (entE X) t + cntE N t
theorem Rmd.done {w : World} {nb r : Nat} {TN : List Tc} {X : List It} {N : List (Nm × Value)} {D : DataW Value} {wr : World} {left : Lit → Bool} {cnt lg al : Nat} (h : Rmd w nb r TN X N D wr left cnt lg al) (hl : ∀ kl, left kl = false) (hsub : ∀ e ∈ N, e.1.1 ∈ TN) (hfull : ∀ t, t ∈ TN → ∃ e ∈ N, e.1.1 = t) :
    roomI X N = if 1000 < lg then 91 else if 100000 < al then 92 else 0 := by
  have e1 : al = X.length + N.length := by
    rw [h.all]
    congr 2
    rw [List.filter_eq_self]
    intro e _
    simp [hl]
  have e2 : N.any (fun e => decide (1000 < cntE (entE X) e.1.1 + cntE N e.1.1)) = decide (1000 < lg) := by
    rw [Bool.eq_iff_iff]
    simp only [List.any_eq_true, decide_eq_true_eq]
    constructor
    · rintro ⟨e, he, hlt⟩
      have := h.low _ (hsub e he) (hl _)
      omega
    · intro hlt
      rcases h.att with h0 | ⟨t, ht, e⟩
      · omega
      · obtain ⟨x, hx, rfl⟩ := hfull t ht
        exact ⟨x, hx, by omega⟩
  unfold roomI
  rw [e2, e1]
  simp only [decide_eq_true_eq]
set_option maxHeartbeats 1000000 in
theorem room_any (s b nb : Nat) (M MN : Tc → Nat) (T TN : List Tc) (X : List It) (N : List (Nm × Value)) (w : World) (h : StoreAt w s b M T X) (hN : Nest w nb MN TN N) (hok : ∀ e ∈ N, NmOk e.1) (hsub : ∀ e ∈ N, e.1.1 ∈ TN) (hfull : ∀ t, t ∈ TN → ∃ e ∈ N, e.1.1 = t) (hx : X.length ≤ 1000000000000000) (hn : N.length ≤ 1000000000000000) :
    Calls Tryd.prog 14 #[.pointer (some ⟨s, 0, none⟩), .map (some nb)] w fun e w' => e = .returned (.int .i64 (roomI X N)) ∧ Below w.heap.size w w' := by
  obtain ⟨D, d1, d2, d3, d4⟩ := hN.outer
  have d5 : ∀ m, ownM (w.drewN m) 31 nb D := fun m => d1.upd ((Upd.refl (fun _ => False) w).drewN m) (fun h => h)
  have c0 := blk_cell h.block 0 rfl
  have c1 := blk_cell h.block 1 rfl
  have NX : ∀ wr w1 left cnt cnt1 lg al kl (x : Tc) (c : Value) y, Rmd w nb w.heap.size TN X N D wr left cnt lg al → keyOf Tryd.prog 31 (tcV x) = some kl → left kl = true → valR c = some y → (∀ zd, D.atKey kl zd = y.1) → w1.ranges Tryd.prog 31 valR nb w.heap.size (Maps.size D) D (fun z => left z && !z.sameKey kl) cnt1 → wr.grownBy w1 (some w.heap.size) →
      c = .map (some (MN x)) ∧ w1.cell? ⟨s, 0, none⟩ = some (.map (some b)) ∧ al + cntE N x ≤ 2000000000000000 ∧ lg ≤ 2000000000000000 ∧ cntE (entE X) x ≤ 1000000000000000 ∧ cntE N x ≤ 1000000000000000 ∧
      ∀ o, (w1.alloc o).cell? ⟨s, 0, none⟩ = some (.map (some b)) ∧ ((Instr.lookup 46 (.map (some b)) (tcV x) false).run Tryd.prog ((w1.alloc o).drew) = .ok (inV M T x) ((w1.alloc o).drew)) ∧
        (∀ r, (Builtin.len_ #[52] r #[inV M T x]).run Tryd.prog ((w1.alloc o).drew) = .ok (.int .i64 (cntE (entE X) x)) ((w1.alloc o).drew)) ∧
        (∀ r, (Builtin.len_ #[74] r #[.map (some (MN x))]).run Tryd.prog ((w1.alloc o).drew) = .ok (.int .i64 (cntE N x)) ((w1.alloc o).drew)) ∧
        Rmd w nb w.heap.size TN X N D ((w1.alloc o).drew) (fun z => left z && !z.sameKey kl) cnt1 (max lg (cntE (entE X) x + cntE N x)) (al + cntE N x) := by
    rintro wr w1 left cnt cnt1 lg al kl x c y hr hkey hlk hv hat hrg1 hgr
    obtain ⟨x', ex, hxo, rfl⟩ := key_t_inv hkey
    obtain rfl := tcV_inj ex
    have hxT : x ∈ TN := by
      have := has_true_of_atKey hat
      rw [d2 x hxo] at this
      simpa using this
    have hc : c = .map (some (MN x)) := by
      have e1 := hat .nil
      rw [d3 x hxT] at e1
      refine valR_inv (ps := y.2) ?_
      rw [hv, e1]
    have hu : Upd (fun k => k = w.heap.size) wr w1 := (Upd.refl _ _).grown hgr (fun _ _ e => (Option.some.inj e).symm)
    have B1 : Below w.heap.size w w1 := hr.below.trans (hu.below hr.below.size (fun k hk e => by omega))
    have hsum := strike_cnt x hxo left hlk N hok
    have hle := List.length_filter_le (fun e : Nm × Value => !(left (tkey e.1.1) && !(tkey e.1.1).sameKey (tkey x))) N
    have hall := hr.all
    have cX := cnt_le (entE X) x
    have eX : (entE X).length = X.length := by simp [entE]
    have cN := cnt_le N x
    have hlg : lg ≤ 2000000000000000 := by
      rcases hr.att with h0 | ⟨t, _, e⟩
      · omega
      · have := cnt_le (entE X) t
        have := cnt_le N t
        omega
    refine ⟨hc, (h.below B1).block |> fun k => blk_cell k 0 rfl, by omega, hlg, by omega, by omega, fun o => ?_⟩
    have B2 : Below w.heap.size w ((w1.alloc o).drew) := (B1.alloc B1.size o).drew
    refine ⟨(h.below B2).block |> fun k => blk_cell k 0 rfl, (h.below B2).nest.look Tryd.underlying46 (zT _) x hxo, fun r => (h.below B2).nest.len Tryd.underlying52 x r, fun r => ?_, ?_⟩
    · have := (hN.upd (S := fun _ => False) (Upd.ofBelow B2 (fun k h1 h2 => by omega)) (fun h => h) (fun _ _ h => h)).len Tryd.underlying74 x r
      rw [inV, if_pos hxT] at this
      exact this
    · refine ⟨(hrg1.alloc o).kept (row := none) ⟨rfl, rfl, rfl, Nat.le_refl _, fun _ _ _ => rfl⟩ (by simp) (by simp), B2, ?_, fun t ht hl => ?_, ?_⟩
      · rw [hsum]; omega
      · simp only [Bool.and_eq_false_iff] at hl
        rcases hl with hl | hl
        · have := hr.low t ht hl
          omega
        · have e1 : tkey t = tkey x := WideAt.sameKey_eq (by simpa using hl)
          rw [tkey_inj (hN.ok t ht) hxo e1]
          omega
      · rcases Nat.le_total lg (cntE (entE X) x + cntE N x) with hm | hm
        · exact Or.inr ⟨x, hxT, by omega⟩
        · rw [Nat.max_eq_left hm]
          exact hr.att
  have HNX : Hid _ := NX
  have HD : Hid _ := fun wr left cnt lg al (hr : Rmd w nb w.heap.size TN X N D wr left cnt lg al) hl => hr.done hl hsub hfull
  have ST : ∀ w0, w0.ranges Tryd.prog 31 valR nb w.heap.size (Maps.size D) D (Maps.has D) (Maps.size D) → w.grownBy w0 none → Rmd w nb w.heap.size TN X N D w0 (Maps.has D) (Maps.size D) 0 X.length := by
    intro w0 hrg hg
    refine ⟨hrg, ((Upd.refl (fun _ => False) w).grown hg (fun _ _ e => by simp at e)).below (Nat.le_refl _) (fun _ _ h => h), ?_, fun t ht hl => ?_, Or.inl rfl⟩
    · have : N.filter (fun e => !Maps.has D (tkey e.1.1)) = [] := by
        rw [List.filter_eq_nil_iff]
        intro e he
        rw [d2 _ (hok e he).1]
        simpa using hsub e he
      rw [this]; rfl
    · rw [d2 t (hN.ok t ht)] at hl
      simp at hl
      exact absurd ht hl
  have HST : Hid _ := ST
  have hx1 : (X.length : Int) ≤ 1000000000000000 := by omega
  clear NX ST h hN hok hsub hfull d1 d2 d3 d4 hn
  generalize X.length = xl at *
  go_enter Tryd.func14, Tryd.ntmps14
  go_wp2
  go_region
  go_wp2_with (first
    | (at_range; refine wpList_range_own _ rfl _ 56 rfl 31 74 lawT Tryd.underlying56 _ nb _ D rfl (d5 1) ?_; intro w0 hrg0 hg0 hs0)
    | go_in)
  try go_frame
  have P0 := HST.out w0 hrg0 ⟨hg0.os, hg0.tape, hg0.output, hg0.size, hg0.block⟩
  have HX : Hid (X.length = X.length) := rfl
  clear hrg0 hg0 hs0 HST d5 c0 c1
  go_loopw [5, 6] (fun b5 b6 wr => ∃ (left : Lit → Bool) (cnt lg al : Nat), b5 = .int .i64 (lg : Int) ∧ b6 = .int .i64 (al : Int) ∧ Rmd w nb w.heap.size TN X N D wr left cnt lg al) (fun _ _ wr => wr.rangeLeft nb w.heap.size)
  case atStart => exact ⟨_, _, 0, xl, rfl, rfl, P0⟩
  case round =>
    obtain ⟨left, cnt, lg, al, rfl, rfl, hR⟩ := hrel
    have hrg := hR.rg
    go_wp2_with (first
      | (at_next; refine wpList_next_ranges _ rfl _ rfl 31 lawT valR tcV id (fun key kl hk => by obtain ⟨x, rfl, _⟩ := key_t_inv hk; exact ⟨x, rfl⟩) (fun v y hv => ⟨v, rfl⟩) nb w.heap.size _ D left cnt rfl hrg ?_ ?_)
      | go_in)
    · intro _ hl0
      have hd := HD.out _ _ _ _ _ hR hl0
      have hBB := hR.below
      clear HD HNX hR hrg hl0 P0
      by_cases h1 : 1000 < lg
      · rw [if_pos h1] at hd
        have j1 : (1000 : Int) < (lg : Int) := by omega
        have HD1 : Hid _ := hd
        clear hd h1
        go_wp2
        go_returns
        exact ⟨(congrArg (fun z => Ending.returned (.int .i64 z)) HD1.out).symm, hBB⟩
      · rw [if_neg h1] at hd
        have j1 : ¬ (1000 : Int) < (lg : Int) := by omega
        by_cases h2 : 100000 < al
        · rw [if_pos h2] at hd
          have j2 : (100000 : Int) < (al : Int) := by omega
          have HD1 : Hid _ := hd
          clear hd h1 h2
          go_wp2
          go_returns
          exact ⟨(congrArg (fun z => Ending.returned (.int .i64 z)) HD1.out).symm, hBB⟩
        · rw [if_neg h2] at hd
          have j2 : ¬ (100000 : Int) < (al : Int) := by omega
          have HD1 : Hid _ := hd
          clear hd h1 h2
          go_wp2
          go_returns
          exact ⟨(congrArg (fun z => Ending.returned (.int .i64 z)) HD1.out).symm, hBB⟩
    · intro x1 x2 c kl y1 y2 w1 cnt1 hkey hlk hv hat hrg1 hlt hg1 hs1 hen
      obtain ⟨hc, cs, q1, q2, q3, q4, HF⟩ := HNX.out wr w1 left cnt cnt1 lg al kl (x1, x2) c (y1, y2) hR hkey hlk hv hat hrg1 hg1
      obtain ⟨cs2, l1, l2, l3, HR⟩ := HF (.cells #[.int .u64 x1, .int .u64 x2] 31)
      obtain ⟨x, hx⟩ : ∃ x : Tc, (x1, x2) = x := ⟨_, rfl⟩
      simp only [hc] at hen
      have HL := hrg.left_eq
      have HRR : Hid _ := HR
      have HLT : Hid _ := hlt
      have k1 : (al : Int) + (cntE N (x1, x2) : Int) ≤ 2000000000000000 := by omega
      have k2 : (lg : Int) ≤ 2000000000000000 := by omega
      have k3 : (cntE (entE X) (x1, x2) : Int) ≤ 1000000000000000 := by omega
      have k4 : (cntE N (x1, x2) : Int) ≤ 1000000000000000 := by omega
      clear HD HNX hR hrg hkey hlk hv hat hrg1 hg1 hs1 HF HR hlt P0 q1 q2 q3 q4
      have e1 : x.1 = x1 := by rw [← hx]
      have e2 : x.2 = x2 := by rw [← hx]
      generalize inV M T (x1, x2) = iv at *
      unfold tcV at *
      simp only [hx] at *
      generalize cntE (entE X) x = cx at *
      generalize cntE N x = cn at *
      generalize MN x = mb at *
      clear hx e1 e2
      go_wp2
      go_region
      go_wp2
      have HM : Hid (((max lg (cx + cn) : Nat) : Int) = max (lg : Int) ((cx : Int) + (cn : Int))) := by show _ = _; omega
      go_roundw
      case rel =>
        refine ⟨_, _, _, _, _, _, _, _, _, _, _, _, _, _, _, _, _, _, _, _, _, _, _, _, _, ⟨_, cnt1, max lg (cx + cn), al + cn, ?_, ?_, HRR.out⟩, rfl⟩
        · rw [HM.out]
        · simp
      case measure => rw [HRR.out.rg.left_eq, HL]; exact HLT.out
end Go.Proofs.YtfhpocgiekkboaaDoor
