/-
  Contracts: Scan.
-/
import Derived.Test.YtgoafinbaiepmaaGreatDoorFrSc
import Derived.Test.YtgoafinbaiepmaaGreatDoorFrMw
namespace Go.Proofs.YtgoafinbaiepmaaGreatDoor.fr
open Go.RowKit
set_option maxRecDepth 100000
theorem Tryz.info306 : (Tryz.prog.info? 306).map (fun i => (i.zero, i.size, i.bytes)) = some (some (.agg #[.int .i64 0, .int .u64 0, .int .i64 0, .int .i64 0]), 4, 32) := by kernel_rfl

/-- A row of pieces of one's own. -/
def OwnP (base : Nat) (w : World) (v : Value) (ps : List Pc) : Prop := w.ownsRow base 306 4 v ps.length (ps.flatMap pcCells)

theorem own_below {base : Nat} {w w' : World} {e : TypeId} {size : Nat} {v : Value} {n : Nat} {xs : List Value} (h : w.ownsRow base e size v n xs) (hb : Below w.heap.size w w') : w'.ownsRow base e size v n xs :=
  ownsRow_upd h (Upd.ofBelow (S := fun _ => False) hb (fun k hk hk' => by omega)) (fun _ _ h => h)
theorem OwnP.below {base : Nat} {w w' : World} {v : Value} {ps : List Pc} (h : OwnP base w v ps) (hb : Below w.heap.size w w') : OwnP base w' v ps := own_below h hb

theorem own_lt {base : Nat} {w : World} {e : TypeId} {size : Nat} {v : Value} {n : Nat} {xs : List Value} (h : w.ownsRow base e size v n xs) {j : Nat} (hj : v.ownBlock = some j) : j < w.heap.size ∧ base ≤ j := by
  rcases h.2 with ⟨rfl, _⟩ | ⟨g, cap, cur, rfl, hb, hg, _⟩
  · simp [Value.ownBlock] at hj
  · simp [Value.ownBlock] at hj
    subst hj
    exact ⟨lt_of_block hg, hb⟩
/-- Midway in Scan. -/
structure Sm (w : World) (T : Nat) (K : List Int) (wk : World) (v : Value) (p : Nat) (acc : List Pc) : Prop where
  below : Below w.heap.size w wk
  tab : wk.heap[T]? = some (.cells (tabAt 256) 220 (0, 0))
  lo : w.heap.size ≤ T
  own : OwnP w.heap.size wk v acc
  ne : ∀ j, v.ownBlock = some j → T < j
  le : p ≤ K.length
  few : acc.length * 24 ≤ p
  eq : scanL K = (acc ++ (scanG (K.length - p) (K.drop p) p).1, (scanG (K.length - p) (K.drop p) p).2)

set_option maxHeartbeats 4000000 in
theorem scan_any (ad : Option Addr) (n cap : Nat) (K : List Int) (w : World) (h : Holds w ad n K) (hK : ByteL K) (hcap : n ≤ cap) (hn : n ≤ 140737488355328) :
    Calls Tryz.prog 187 #[.slice ad n cap] w fun e w' => ∃ v, e = .returned (.tuple #[v, .int .i64 ((scanL K).2.1 : Int), .int .i64 (scanL K).2.2]) ∧ OwnP w.heap.size w' v (scanL K).1 ∧ Below w.heap.size w w' := by
  obtain ⟨hv, hi⟩ := zero_of_info Tryz.info220
  have hs2 := tabAt_size 256
  obtain ⟨i0, hip, hp0, hp1, hp2⟩ := info_parts Tryz.info306
  have hl := h.len
  go_enter Tryz.func187, Tryz.ntmps187
  go_wp2_with (first
    | (go_at_call 118; refine (newTable_any _).mono ?_; rintro e w1 ⟨rfl, hb1⟩; have hsz1 := hb1.size; have hnew := heap_alloc_new w1 (.cells (Array.replicate 256 (Value.int .u32 0)) 220))
    | (refine wpList_store_row rfl 220 (.tmp 5) (.tmp 11) rfl w1.heap.size 220 _ (tabAt 256) rfl rfl hnew (by rw [hs2]; exact hi) (by rw [hs2]; simp) (tabAt_one _) ?_; rw [World.setRow_alloc_new]))
  clear hnew
  go_loopw [6, 7] (fun a b wr => ∃ (p : Nat) (acc : List Pc), b = .int .i64 p ∧ Sm w w1.heap.size K wr a p acc) (fun _ b _ => n - (intOf b).toNat)
  case atStart =>
    refine ⟨0, [], rfl, hb1.alloc hsz1 _, heap_alloc_new w1 _, hsz1, World.ownsRow_nil _ _ _ _, ?_, by omega, by simp, ?_⟩
    · intro j hj; simp [Value.ownBlock] at hj
    · simp [scanL]
  case round =>
    obtain ⟨p, acc, rfl, S⟩ := hrel
    have hpl := S.le
    have hfew := S.few
    obtain ⟨ao, l, c, rfl⟩ := row_shape S.own
    by_cases hlt : p < n
    · have hz : (p : Int) < (n : Int) := by omega
      obtain ⟨b, o, rfl⟩ := h.some_of (by omega)
      have hcp : ¬ cap = p := by omega
      have hcpi : (p : Int) ≤ (n : Int) := by omega
      obtain ⟨R, hRd⟩ : ∃ R, K.drop p = R := ⟨_, rfl⟩
      have hRl : R.length = n - p := by rw [← hRd]; simp; omega
      have hRb : ByteL R := by rw [← hRd]; exact hK.drop p
      have hRh : Holds w (some ⟨b, o + p, none⟩) (n - p) R := by
        have := h.sub p (n - p) (by omega)
        rw [hRd, List.take_of_length_le (by omega)] at this
        exact this
      have hRk := hRh.below S.below
      have E := S.eq
      rw [hRd, hl] at E
      obtain ⟨f, hf⟩ : ∃ f, n - p = f + 1 := ⟨n - p - 1, by omega⟩
      rw [hf] at E
      cases hst : stepS R with
      | error e =>
        rw [scanG_err f p R e (by omega) hst] at E
        have he : scanL K = (acc, p, e) := by rw [E]; simp
        have HE : Hid (scanL K = (acc, p, e)) := he
        have A := S.own
        have HT : Hid (wr.heap[w1.heap.size]? = some (.cells (tabAt 256) 220 (0, 0))) := S.tab
        have B := S.below
        have hBs := B.size
        clear E he hf hRd
        rcases stepS_err R e hst with ⟨h1, rfl⟩ | ⟨h1, h2, rfl⟩ | ⟨h1, h2, h3, rfl⟩ | ⟨h1, h2, h3, h4, rfl⟩
        · have HR : Hid (headR R (.tuple #[headV 0 0 0 0, .int .i64 23])) := Or.inl ⟨h1, rfl⟩
          clear hst S h1
          go_wp2_with (go_at_call 217; refine (tableHead_any w1.heap.size _ _ _ R _ HR.out _ HT.out hRk hRb (by omega)).mono ?_; rintro e w2 ⟨rfl, hb2⟩; unfold headV)
          go_ret3
          rw [HE.out]
          have hb3 := hb2.alloc hb2.size (.cells #[Value.int IntKind.i64 0, Value.int IntKind.u64 0, Value.int IntKind.i64 0, Value.int IntKind.u32 0] 311)
          exact ⟨_, rfl, A.below hb3, B.trans (hb3.mono hBs)⟩
        · have HR : Hid (headR R (.tuple #[headV 0 0 0 0, .int .i64 24])) := Or.inr (Or.inl ⟨h1, h2, rfl⟩)
          clear hst S h1 h2
          go_wp2_with (go_at_call 217; refine (tableHead_any w1.heap.size _ _ _ R _ HR.out _ HT.out hRk hRb (by omega)).mono ?_; rintro e w2 ⟨rfl, hb2⟩; unfold headV)
          go_ret3
          rw [HE.out]
          have hb3 := hb2.alloc hb2.size (.cells #[Value.int IntKind.i64 0, Value.int IntKind.u64 0, Value.int IntKind.i64 0, Value.int IntKind.u32 0] 311)
          exact ⟨_, rfl, A.below hb3, B.trans (hb3.mono hBs)⟩
        · have HR : Hid (headR R (.tuple #[headOf R, .int .i64 0])) := Or.inr (Or.inr ⟨h1, h2, rfl⟩)
          obtain ⟨L, hL⟩ : ∃ L, numI (part R 12 4) = L := ⟨_, rfl⟩
          have hLs := h2.2.2.1
          rw [hL] at h3 hLs
          unfold headOf at HR
          rw [hL] at HR
          generalize R.getD 3 0 = k at HR
          generalize numI (part R 4 8) = q at HR
          generalize sumI (part R 16 4) = s at HR
          have hc1 : (n : Int) - ((p : Int) + 24) < (L : Int) := by omega
          clear hst S h1 h2 hL
          go_wp2_with (go_at_call 217; refine (tableHead_any w1.heap.size _ _ _ R _ HR.out _ HT.out hRk hRb (by omega)).mono ?_; rintro e w2 ⟨rfl, hb2⟩; unfold headV)
          go_ret3
          rw [HE.out]
          have hb3 := hb2.alloc hb2.size (.cells #[Value.int IntKind.i64 k, Value.int IntKind.u64 q, Value.int IntKind.i64 L, Value.int IntKind.u32 s] 311)
          exact ⟨_, rfl, A.below hb3, B.trans (hb3.mono hBs)⟩
        · have HR : Hid (headR R (.tuple #[headOf R, .int .i64 0])) := Or.inr (Or.inr ⟨h1, h2, rfl⟩)
          obtain ⟨L, hL⟩ : ∃ L, numI (part R 12 4) = L := ⟨_, rfl⟩
          have hLs := h2.2.2.1
          rw [hL] at h3 hLs h4
          unfold headOf at HR
          rw [hL] at HR
          generalize R.getD 3 0 = k at HR
          generalize numI (part R 4 8) = q at HR
          generalize hsv : sumI (part R 16 4) = s at HR h4
          have hc1 : ¬ ((n : Int) - ((p : Int) + 24) < (L : Int)) := by omega
          have hc1' : decide ((n : Int) - ((p : Int) + 24) < (L : Int)) = false := by simpa using hc1
          obtain ⟨X, hX⟩ : ∃ X : BitVec 32, moreB 0#32 (part R 24 L) = X := ⟨_, rfl⟩
          rw [hX] at h4
          obtain ⟨Ad, hAd, hAh⟩ : ∃ Ad, (if cap = p + 24 then some (⟨b, o, none⟩ : Addr) else some ⟨b, o + (p + 24), none⟩) = Ad ∧ Holds wr Ad L (part R 24 L) := by
            refine ⟨_, rfl, ?_⟩
            by_cases hce : cap = p + 24
            · obtain rfl : L = 0 := by omega
              rw [if_pos hce]
              exact ⟨by simp [part], fun j u hj => by simp [part] at hj⟩
            · rw [if_neg hce, ← Nat.add_assoc]
              exact hRk.part 24 L (by omega)
          clear hst S h1 h2 hL hsv
          have hne1 : ((X.toNat : Int) == (s : Int)) = false := by
            apply beq_eq_false_iff_ne.2; omega
          go_wp2_with (go_at_call 217; refine (tableHead_any w1.heap.size _ _ _ R _ HR.out _ HT.out hRk hRb (by omega)).mono ?_; rintro e w2 ⟨rfl, hb2⟩; have hb3 := hb2.alloc hb2.size (.cells #[Value.int IntKind.i64 k, Value.int IntKind.u64 q, Value.int IntKind.i64 L, Value.int IntKind.u32 s] 311); have MO := (fun m => more_any w1.heap.size 0#32 Ad L (cap - (p + 24)) (part R 24 L) ((w2.alloc (.cells #[Value.int IntKind.i64 k, Value.int IntKind.u64 q, Value.int IntKind.i64 L, Value.int IntKind.u32 s] 311)).drewN m) ((hb3.block _ (lt_of_block HT.out)).trans HT.out) ((hAh.below hb3).drewN m) (hRb.part _ _) (by omega)); simp only [hX] at MO; unfold headV)
          go_quiet (first | (go_at_call 121; refine Calls.quiet_of_same (MO _)))
          rw [hAd]
          have hne2 : ((X.toNat : Int) != (s : Int)) = true := by rw [bne, hne1]; rfl
          go_wp2
          go_ret3
          rw [HE.out]
          exact ⟨_, rfl, (A.below hb3).below (below_drewN (Below.refl _ _) _), below_drewN (B.trans (hb3.mono hBs)) _⟩
      | ok x =>
        obtain ⟨k, q, L⟩ := x
        rw [scanG_ok f p R k q L (by omega) hst] at E
        obtain ⟨h1, h2, h3, hk, hq, hL, h4⟩ := stepS_ok' R k q L hst
        have HR0 : headR R (.tuple #[headOf R, .int .i64 0]) := Or.inr (Or.inr ⟨h1, h2, rfl⟩)
        have hLs := h2.2.2.1
        rw [hL] at hLs
        unfold headOf at HR0
        rw [hL, hk, hq] at HR0
        generalize hsv : sumI (part R 16 4) = s at HR0 h4
        have HR : Hid (headR R (.tuple #[headV k q L s, .int .i64 0])) := HR0
        have hc1 : ¬ ((n : Int) - ((p : Int) + 24) < (L : Int)) := by omega
        have hc1' : decide ((n : Int) - ((p : Int) + 24) < (L : Int)) = false := by simpa using hc1
        have he : scanL K = ((acc ++ [(k, q, p + 24, L)]) ++ (scanG (n - (p + 24 + L)) (K.drop (p + 24 + L)) (p + 24 + L)).1, (scanG (n - (p + 24 + L)) (K.drop (p + 24 + L)) (p + 24 + L)).2) := by
          have hd : R.drop (24 + L) = K.drop (p + 24 + L) := by rw [← hRd, List.drop_drop, Nat.add_assoc]
          rw [E, hd, scanG_fuel f (K.drop (p + 24 + L)) (p + 24 + L) (n - (p + 24 + L)) (by simp; omega) (by simp; omega)]
          simp
        have HE : Hid (scanL K = ((acc ++ [(k, q, p + 24, L)]) ++ (scanG (n - (p + 24 + L)) (K.drop (p + 24 + L)) (p + 24 + L)).1, (scanG (n - (p + 24 + L)) (K.drop (p + 24 + L)) (p + 24 + L)).2)) := he
        obtain ⟨X, hX⟩ : ∃ X : BitVec 32, moreB 0#32 (part R 24 L) = X := ⟨_, rfl⟩
        rw [hX] at h4
        obtain ⟨Ad, hAd, hAh⟩ : ∃ Ad, (if cap = p + 24 then some (⟨b, o, none⟩ : Addr) else some ⟨b, o + (p + 24), none⟩) = Ad ∧ Holds wr Ad L (part R 24 L) := by
          refine ⟨_, rfl, ?_⟩
          by_cases hce : cap = p + 24
          · obtain rfl : L = 0 := by omega
            rw [if_pos hce]
            exact ⟨by simp [part], fun j u hj => by simp [part] at hj⟩
          · rw [if_neg hce, ← Nat.add_assoc]
            exact hRk.part 24 L (by omega)
        have hne1 : ((X.toNat : Int) == (s : Int)) = true := by simp; omega
        have A := S.own
        have HT : Hid (wr.heap[w1.heap.size]? = some (.cells (tabAt 256) 220 (0, 0))) := S.tab
        have B := S.below
        have hBs := B.size
        have HS : Hid (Sm w w1.heap.size K wr (.slice ao l c) p acc) := S
        clear E he hf hRd S hst h1 h2 hL hsv hk hq h4
        go_wp2_with (go_at_call 217; refine (tableHead_any w1.heap.size _ _ _ R _ HR.out _ HT.out hRk hRb (by omega)).mono ?_; rintro e w2 ⟨rfl, hb2⟩; have hb3 := hb2.alloc hb2.size (.cells #[Value.int IntKind.i64 k, Value.int IntKind.u64 q, Value.int IntKind.i64 L, Value.int IntKind.u32 s] 311); have MO := (fun m => more_any w1.heap.size 0#32 Ad L (cap - (p + 24)) (part R 24 L) ((w2.alloc (.cells #[Value.int IntKind.i64 k, Value.int IntKind.u64 q, Value.int IntKind.i64 L, Value.int IntKind.u32 s] 311)).drewN m) ((hb3.block _ (lt_of_block HT.out)).trans HT.out) ((hAh.below hb3).drewN m) (hRb.part _ _) (by omega)); simp only [hX] at MO; unfold headV)
        go_quiet (first | (go_at_call 121; refine Calls.quiet_of_same (MO _)))
        rw [hAd]
        have hne2 : ((X.toNat : Int) != (s : Int)) = false := by rw [bne, hne1]; rfl
        have A3 := (A.below hb3).below (below_drewN (Below.refl _ _) nq)
        unfold OwnP at A3
        have hacc : acc.length ≤ 5864062014805 := by omega
        go_wp2_with (at_builtin; refine wpList_appW _ rfl (.tmp 52) (.tmp 61) 288 288 rfl w.heap.size 306 i0 _ 4 32 Tryz.underlying288 hip hp0 hp1 hp2 rfl _ _ _ rfl (A3.alloc _) _ 1 (pcCells (k, q, p + 24, L)) rfl (Src.ofSlice _ Tryz.underlying288 ⟨w2.heap.size + 1, 0, none⟩ 1 1 _ rfl ?c1 ?c2) ?c3 ?c4 ?c5 ?_)
        case c1 =>
          have hnb := heap_alloc_new ((w2.alloc (.cells #[Value.int IntKind.i64 k, Value.int IntKind.u64 q, Value.int IntKind.i64 L, Value.int IntKind.u32 s] 311)).drewN nq) (.cells #[Value.int IntKind.i64 k, Value.int IntKind.u64 q, Value.int IntKind.i64 ((p : Int) + 24), Value.int IntKind.i64 L] 306)
          have hsz4 : ((w2.alloc (.cells #[Value.int IntKind.i64 k, Value.int IntKind.u64 q, Value.int IntKind.i64 L, Value.int IntKind.u32 s] 311)).drewN nq).heap.size = w2.heap.size + 1 := by simp
          rw [hsz4] at hnb
          intro j u hj
          rw [Addr.add_lit, Nat.zero_add, cell_of_row _ _ j _ _ _ hnb]
          match j, hj with
          | 0, hj => simpa [pcCells] using hj
          | 1, hj => simpa [pcCells] using hj
          | 2, hj => simpa [pcCells] using hj
          | 3, hj => simpa [pcCells] using hj
        case c2 => intro u hu; simp [pcCells] at hu; rcases hu with rfl | rfl | rfl | rfl <;> rfl
        case c3 => unfold maxLen; omega
        case c4 => omega
        case c5 => simp; have := hb3.size; simp at this; omega
        intro v' w5 ho hg hm
        have hsz4 : ((w2.alloc (.cells #[Value.int IntKind.i64 k, Value.int IntKind.u64 q, Value.int IntKind.i64 L, Value.int IntKind.u32 s] 311)).drewN nq).heap.size = w2.heap.size + 1 := by simp
        have hb4 := below_drewN hb3 nq
        have u5 := grown_upd' hg
        have m5 := (Moved.refl ((w2.alloc (.cells #[Value.int IntKind.i64 k, Value.int IntKind.u64 q, Value.int IntKind.i64 L, Value.int IntKind.u32 s] 311)).drewN nq) (Value.slice ao l c)).trans (by simp) hm
        have hown : ∀ j, (Value.slice ao l c).ownBlock = some j → j < wr.heap.size ∧ w1.heap.size < j := fun j hj => ⟨(own_lt A hj).1, HS.out.ne j hj⟩
        have hwr2 := hb2.size
        have hlc : w5.cell? ⟨w2.heap.size, 2, none⟩ = some (.int .i64 L) := by
          refine cell_upd u5 ?_ (fun e => by have := (hown w2.heap.size e).1; omega)
          have hh := heap_alloc_new w2 (.cells #[Value.int IntKind.i64 k, Value.int IntKind.u64 q, Value.int IntKind.i64 L, Value.int IntKind.u32 s] 311)
          exact cell_of_row _ _ 2 _ _ _ hh
        have hT4 : w5.heap[w1.heap.size]? = some (.cells (tabAt 256) 220 (0, 0)) :=
          (u5.block _ (by have := lt_of_block HT.out; rw [hsz4]; omega) (fun e => by have := (hown _ e).2; omega)).trans ((hb4.block _ (lt_of_block HT.out)).trans HT.out)
        have hB5 : Below w.heap.size w w5 := (B.trans (hb4.mono hBs)).trans (u5.below (by rw [hsz4]; omega) (fun j hj e => by have := (hown _ e).2; omega))
        have hne5 : ∀ j, v'.ownBlock = some j → w1.heap.size < j := by
          intro j hj
          rcases m5 with e | ⟨i, e, hi⟩
          · exact (hown j (e ▸ hj)).2
          · rw [hj] at e; simp at e; rw [hsz4] at hi; have := lt_of_block HT.out; omega
        have hSm : Sm w w1.heap.size K w5 v' (p + 24 + L) (acc ++ [(k, q, p + 24, L)]) := by
          refine ⟨hB5, hT4, HS.out.lo, ?_, hne5, by omega, by simp; omega, ?_⟩
          · unfold OwnP; simpa using ho
          · rw [hl]; exact HE.out
        have HSm : Hid (Sm w w1.heap.size K w5 v' (p + 24 + L) (acc ++ [(k, q, p + 24, L)])) := hSm
        obtain ⟨ao5, l5, c5, rfl⟩ := row_shape ho
        clear ho hg hm u5 m5 hown hT4 hB5 hne5 hSm hb4 A3
        go_wp2
        go_roundw
        case rel => exact ⟨p + 24 + L, _, by go_num, HSm.out⟩
        case measure => simp [intOf]; omega
    · have hnp : p = n := by omega
      have E := S.eq
      rw [hl, hnp, Nat.sub_self] at E
      have he : scanL K = (acc, n, 0) := by rw [E]; simp [scanG]
      have HE : Hid (scanL K = (acc, n, 0)) := he
      have A := S.own
      have B := S.below
      clear E S he
      subst hnp
      go_wp2
      go_ret3
      rw [HE.out]
      exact ⟨_, rfl, A, B⟩
end Go.Proofs.YtgoafinbaiepmaaGreatDoor.fr