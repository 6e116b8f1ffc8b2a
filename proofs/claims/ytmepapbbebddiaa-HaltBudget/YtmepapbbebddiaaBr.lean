/-
  halt: branch: the stop, and what lives beneath it, in its order.
-/
import Derived.Test.YtmepapbbebddiaaBw
import Derived.Test.YtmepapbbebddiaaTr
namespace Go.Proofs.Ytmepapbbebddiaa
open Go Go.RowKit Go.Shelf

attribute [local go_sem] Oper.semAt_some

/-- An append to an owned row, in a walk behind a fence. -/
theorem wpListIn_app {F : Fence} {nf : Nat} {P : Program} (w : World) {ops : Array Oper} {rest : List Oper} {o : Oper} {a : Act} {Q : Exit → Act → World → Prop} (hgd : o.guard = none) (s x : Operand) (t tx : TypeId)
    (ho : o.op = .call { callee := .builtin .append, args := #[s, x], argTypes := #[t, tx] })
    (base : Nat) (e : TypeId) (i : TypeInfo) (z : Value) (bytes : Nat) (ht : P.underlying t = some (.slice e)) (hi : P.info? e = some i) (hz : i.zero = some z) (hsize : i.size = 1) (hby : i.bytes = bytes) (hzs : z.cells.size = 1)
    (v : Value) (n : Nat) (xs : List Value) (hv : a.eval s = v) (hown : w.ownsRow base e 1 v n xs) (y : Value) (m : Nat) (news : List Value) (hx : a.eval x = y) (hs : Src P 1 tx y m news w)
    (h63 : n + m ≤ maxLen) (hbytes : (n + m) * bytes ≤ 140737488355328) (hbase : base ≤ w.heap.size)
    (h : ∀ v' w', w'.ownsRow base e 1 v' (n + m) (xs ++ news) → w.grownBy w' v.ownBlock → Moved w v v' → wpListIn F nf P ops Q rest (a.put o.dst v') w') : wpListIn F nf P ops Q (o :: rest) a w := by
  subst hby
  refine wpListIn_plain hgd fun K hK => ?_
  obtain ⟨v', w', hr, h2, h3, h4⟩ := run_app (P := P) w base t tx o.type e i z ht hi hz hsize hzs v n xs hown y m news hs h63 hbytes hbase
  unfold Oper.wpIn
  refine ⟨?_, ?_⟩
  · simp [Oper.about, ho, resolve, Target.leads, Sem.run_pure]
  · rw [Oper.semAt_plain F _ _ (by rw [ho]; intro c hc'; cases hc')]
    simp [execOp, ho, resolve, invoke, builtin, hv, hx, hr, Result.andThen]
    exact hK _ _ (h v' w' h2 h3 h4)

theorem flatMap_len {l : List Nat} {f : Nat → List Nat} (h : ∀ x ∈ l, x ∈ f x) : l.length ≤ (l.flatMap f).length := by
  induction l with
  | nil => simp
  | cons x l ih =>
    have h1 := ih (fun y hy => h y (by simp [hy]))
    have h2 := List.length_pos_of_mem (h x (by simp))
    rw [List.flatMap_cons, List.length_append, List.length_cons]
    omega
theorem heads_nodup {l : List Nat} {f : Nat → List Nat} (hn : (l.flatMap f).Nodup) (h : ∀ x ∈ l, x ∈ f x) : l.Nodup := by
  induction l with
  | nil => exact List.nodup_nil
  | cons x l ih =>
    rw [List.flatMap_cons, List.nodup_append] at hn
    rw [List.nodup_cons]
    refine ⟨fun hx => ?_, ih hn.2.1 (fun y hy => h y (by simp [hy]))⟩
    exact hn.2.2 x (h x (by simp)) x (List.mem_flatMap.2 ⟨x, hx, h x (by simp)⟩) rfl
/-- What lies ahead, and those under the next one: no more than there are. -/
theorem ahead_le {S dn st' K : List Nat} {BR : Nat → List Nat} {s b : Nat} {live : Nat → Bool} (hE : BR s = dn ++ (st' ++ [b]).reverse.flatMap BR) (hnd : (BR s).Nodup) (hS : ∀ x ∈ BR s, x ∈ S) (hst : ∀ x ∈ st' ++ [b], x ∈ BR x) (hK : K.Nodup) (hKS : ∀ k ∈ K, k ∈ S) (hKb : ∀ k ∈ K, b < k)
    (hb : ∀ k ∈ K, live k = true → k ∈ BR b) (hanc : ∀ x ∈ BR s, s ≤ x ∧ (x = s ∨ live x = true)) : dn.length + st'.length + 1 ≤ S.length ∧ st'.length + K.length ≤ S.length := by
  have hst' : ∀ x ∈ (st' ++ [b]).reverse, x ∈ BR x := fun x hx => hst x (List.mem_reverse.1 hx)
  have hle := nodup_le hnd hS
  have hlen := flatMap_len hst'
  have hn2 := hnd
  rw [hE, List.nodup_append] at hn2
  have hstn := heads_nodup hn2.2.1 hst'
  have hmem : ∀ x ∈ st' ++ [b], x ∈ BR s := fun x hx => by
    rw [hE]
    exact List.mem_append_right _ (List.mem_flatMap.2 ⟨x, List.mem_reverse.2 hx, hst x hx⟩)
  constructor
  · rw [hE, List.length_append] at hle
    simp only [List.length_reverse, List.length_append, List.length_cons, List.length_nil] at hlen
    omega
  · have : (K ++ st').Nodup := by
      rw [List.nodup_append]
      rw [List.reverse_append, List.reverse_cons, List.reverse_nil, List.nil_append, List.singleton_append, List.nodup_cons] at hstn
      refine ⟨hK, ?_, ?_⟩
      · exact (List.reverse_perm st').nodup_iff.1 hstn.2
      · intro k hk x hx e
        subst e
        have h1 := hn2.2.1
        rw [List.reverse_append, List.reverse_cons, List.reverse_nil, List.nil_append, List.singleton_append, List.flatMap_cons, List.nodup_append] at h1
        have hx2 : k ∈ st'.reverse.flatMap BR := List.mem_flatMap.2 ⟨k, List.mem_reverse.2 hx, hst k (by simp [hx])⟩
        obtain ⟨h2, h3⟩ := hanc k (hmem k (by simp [hx]))
        rcases h3 with h3 | h3
        · have := (hanc b (hmem b (by simp))).1
          have := hKb k hk
          omega
        · exact h1.2.2 k (hb k hk h3) k hx2 rfl
    have := nodup_le this (S := S) (fun x hx => by
      rcases List.mem_append.1 hx with h | h
      · exact hKS x h
      · exact hS x (hmem x (by simp [h])))
    simp only [List.length_append] at this
    omega
theorem Blk.nc {W W' : World} {row : Option Nat} {b : Nat} {c : Array Value} {T : TypeId} (h : Blk W b c T) (hg : W.grownBy W' row) (hr : ∀ r, row = some r → ∃ o : Obj, W.heap[r]? = some o ∧ o.isCells = false) : Blk W' b c T := by
  refine h.upd (hg.block b h.lt ?_)
  intro e
  obtain ⟨o, ho, hc⟩ := hr b e.symm
  have h' : W.heap[b]? = _ := h
  rw [h'] at ho
  cases ho
  cases hc
theorem ownsRow_nc {W W' : World} {row : Option Nat} {base : Nat} {e : TypeId} {size : Nat} {v : Value} {n : Nat} {xs : List Value} (h : W.ownsRow base e size v n xs) (hg : W.grownBy W' row) (hr : ∀ r, row = some r → ∃ o : Obj, W.heap[r]? = some o ∧ o.isCells = false) : W'.ownsRow base e size v n xs := by
  obtain ⟨h1, h2⟩ := h
  refine ⟨h1, ?_⟩
  rcases h2 with h2 | ⟨g, cap, cur, y1, y2, y3, y4⟩
  · exact Or.inl h2
  · exact Or.inr ⟨g, cap, cur, y1, y2, Blk.nc (show Blk W g cur e from y3) hg hr, y4⟩
theorem ownsRow_base {W : World} {base : Nat} {e : TypeId} {size : Nat} {v : Value} {n : Nat} {xs : List Value} (h : W.ownsRow base e size v n xs) {g : Nat} (hg : v.ownBlock = some g) : base ≤ g ∧ g < W.heap.size ∧ ∃ c, Blk W g c e := by
  rcases h.2 with ⟨rfl, _⟩ | ⟨g', cap, cur, rfl, y2, y3, y4⟩
  · simp [Value.ownBlock] at hg
  · simp [Value.ownBlock] at hg
    subst hg
    exact ⟨y2, lt_of_block y3, cur, y3⟩
/-- Midway in branch: what is found (dn), what lies ahead (st), the marks of loops (ds). -/
def BrInv (S : List Nat) (w : World) (s : Nat) (BR : Nat → List Nat) (va : Value) (dn st : List Nat) (ds : List Nat) (wr : World) : Prop :=
  ∃ vh, wr.ownsRow w.heap.size 46 1 va dn.length (dn.map ptrV) ∧ Blk wr (w.heap.size + 1) #[vh] 25 ∧ wr.ownsRow w.heap.size 46 1 vh st.length (st.map ptrV) ∧
    (∀ q, va.ownBlock = some q → vh.ownBlock ≠ some q) ∧ BR s = dn ++ st.reverse.flatMap BR ∧ (∀ x ∈ st, x ∈ S) ∧ Below w.heap.size w wr ∧ (∀ D ∈ ds, wr.heap[D]? = some (.deferred (some [])) ∧ w.heap.size ≤ D) ∧ ds.Nodup

/-- A mark of a loop. -/
abbrev mark (D : Nat) : Deferred := { target := .collected D, args := #[] }
/-- The marks are taken, one behind the other. -/
def putAll : List Nat → World → World
  | [], W => W
  | D :: ds, W => putAll ds (W.putObj D (.deferred none))
theorem putAll_keeps {base : Nat} (ds : List Nat) : ∀ (W : World), (∀ D ∈ ds, W.heap[D]? = some (.deferred (some [])) ∧ base ≤ D) → ds.Nodup →
    (putAll ds W).heap.size = W.heap.size ∧ Upd (fun k => base ≤ k) W (putAll ds W) ∧ (∀ (k : Nat) (c : Array Value) (T : TypeId) (fz : Nat × Nat), W.heap[k]? = some (Obj.cells c T fz) → (putAll ds W).heap[k]? = some (Obj.cells c T fz)) := by
  induction ds with
  | nil => intro W _ _; exact ⟨rfl, Upd.refl _ _, fun k c T fz h => h⟩
  | cons D ds ih =>
    intro W h hn
    rw [List.nodup_cons] at hn
    obtain ⟨h1, h2⟩ := h D (by simp)
    have hlt : D < W.heap.size := (Array.getElem?_eq_some_iff.1 h1).1
    have hW1 : Upd (fun k => base ≤ k) W (W.putObj D (.deferred none)) := ⟨rfl, rfl, rfl, by simp [World.putObj], fun k _ hk => World.putObj_heap_other (fun e => hk (by omega))⟩
    obtain ⟨a1, a2, a3⟩ := ih (W.putObj D (.deferred none)) (fun D' hD' => by
      have hne : D' ≠ D := fun e => hn.1 (e ▸ hD')
      exact ⟨(World.putObj_heap_other hne).trans (h D' (by simp [hD'])).1, (h D' (by simp [hD'])).2⟩) hn.2
    refine ⟨a1.trans (by simp [World.putObj]), hW1.trans a2 (fun i _ h => h), fun k c T fz hk => a3 k c T fz ?_⟩
    have hne : k ≠ D := by
      rintro rfl
      rw [h1] at hk
      cases hk
    exact (World.putObj_heap_other hne).trans hk
theorem leaves_marks {F : Fence} {n : Nat} {P : Program} {fn : Func} {tmps : Array Value} {R : Ending → World → Prop} (ds : List Nat) : ∀ (W : World), (∀ D ∈ ds, W.heap[D]? = some (.deferred (some []))) → ds.Nodup →
    LeavesIn F n P fn tmps R [] .returning (putAll ds W) → LeavesInM F n P fn tmps R (ds.map mark) .returning W := by
  induction ds with
  | nil => intro W _ _ h; exact h
  | cons D ds ih =>
    intro W h hn hL
    rw [List.nodup_cons] at hn
    refine ⟨by simp, .inl ⟨D, W.putObj D (.deferred none), rfl, run_takeDeferred (h D (by simp)), ?_⟩⟩
    refine ih _ (fun D' hD' => ?_) hn.2 hL
    have hne : D' ≠ D := fun e => hn.1 (e ▸ hD')
    exact (World.putObj_heap_other hne).trans (h D' (by simp [hD']))
/-- How long a row is. -/
def lenV : Value → Nat
  | .slice _ n _ => n
  | _ => 0
theorem lenV_own {w : World} {base : Nat} {e : TypeId} {v : Value} {n : Nat} {xs : List Value} (h : w.ownsRow base e 1 v n xs) : lenV v = n := by
  rcases h.2 with ⟨rfl, h0⟩ | ⟨g, cap, cur, rfl, _⟩
  · exact h0.symm
  · rfl

set_option maxRecDepth 100000 in
set_option maxHeartbeats 2000000 in
theorem branch_any (S : List Nat) (us : Nat → Value) (gb : Nat → Nat) (kids : Nat → List Nat) (why : Nat → Int) (pg : Nat → Option Nat) (s : Nat) (w : World) (TR : Tree kids pg w.heap.size) (hpg : ∀ x p, pg x = some p → p < x) (hs : s ∈ S)
    (hcell : ∀ b ∈ S, w.cell? ⟨b, 2, none⟩ = some (us b) ∧ RowIs w (us b) (gb b) (kids b) ∧ gb b < w.heap.size ∧ w.cell? ⟨b, 6, none⟩ = some (.int .i64 (why b))) (hkid : ∀ b ∈ S, ∀ k ∈ kids b, k ∈ S) (hn : S.length * 8 ≤ 140737488355328) :
    Calls Try.prog 58 #[ptrV s] w fun e w' => ∃ v, e = .returned v ∧
      w'.ownsRow w.heap.size 46 1 v (br kids (fun b => decide (why b = 0)) w.heap.size s).length ((br kids (fun b => decide (why b = 0)) w.heap.size s).map ptrV) ∧ Below w.heap.size w w' := by
  obtain ⟨BR, hBR⟩ : ∃ BR, br kids (fun b => decide (why b = 0)) w.heap.size = BR := ⟨_, rfl⟩
  obtain ⟨i0, hi, hz0, hz1, hz2⟩ := info_parts infoPtr
  have hslt : s < w.heap.size := lt_of_cell (hcell s hs).1
  have hBRn : (BR s).Nodup := by rw [← hBR]; exact br_nodup TR hpg s hslt
  have hBRS : ∀ x ∈ BR s, x ∈ S := by
    rw [← hBR]
    have key : ∀ b, b < w.heap.size → b ∈ S → ∀ x ∈ br kids (fun b => decide (why b = 0)) w.heap.size b, x ∈ S := by
      refine Tree.induct (p := fun b => b ∈ S → ∀ x ∈ br kids (fun b => decide (why b = 0)) w.heap.size b, x ∈ S) w.heap.size fun b hb ih hbS x hx => ?_
      rw [br_eq TR hb] at hx
      rcases List.mem_cons.1 hx with rfl | hx
      · exact hbS
      · obtain ⟨k, hk, hxk⟩ := List.mem_flatMap.1 hx
        have hk1 := (List.mem_filter.1 hk).1
        obtain ⟨h1, h2, _⟩ := TR.up b k hk1
        exact ih k h1 h2 (hkid b hbS k hk1) x hxk
    exact key s hslt hs
  have hBRl : (BR s).length ≤ S.length := nodup_le hBRn hBRS
  have hBRe : ∀ b, b < w.heap.size → BR b = b :: ((kids b).filter (fun b => decide (why b = 0))).flatMap BR := by
    intro b hb; rw [← hBR]; exact br_eq TR hb
  have hANC : ∀ x ∈ BR s, s ≤ x ∧ (x = s ∨ decide (why x = 0) = true) := by
    rw [← hBR]
    intro x hx
    obtain ⟨h1, _, h3, _⟩ := br_anc TR s hslt x hx
    exact ⟨h1, h3⟩
  have HANC : Hid (∀ x ∈ BR s, s ≤ x ∧ (x = s ∨ decide (why x = 0) = true)) := hANC
  clear hANC
  rw [hBR]
  refine (callsIn_wide (n := 5)).1 ?_
  refine callsIn_of_wp_marks Try.func58 rfl trivial ?_
  simp only [Try.ntmps58, List.size_toArray, List.length_cons, List.length_nil, Nat.reduceAdd, Nat.reduceSub, Array.replicate_succ, Array.replicate_zero, List.push_toArray, List.append_toArray, List.nil_append, List.cons_append]
  have HCELL : Hid (∀ b ∈ S, w.cell? ⟨b, 2, none⟩ = some (us b) ∧ RowIs w (us b) (gb b) (kids b) ∧ gb b < w.heap.size ∧ w.cell? ⟨b, 6, none⟩ = some (.int .i64 (why b))) := hcell
  have HBRE : Hid (∀ b, b < w.heap.size → BR b = b :: ((kids b).filter (fun b => decide (why b = 0))).flatMap BR) := hBRe
  have HKID : Hid (∀ b ∈ S, ∀ k ∈ kids b, k ∈ S) := hkid
  have HPG : Hid (∀ x p, pg x = some p → p < x) := hpg
  have HBRS : Hid (∀ x ∈ BR s, x ∈ S) := hBRS
  have HBRN : Hid ((BR s).Nodup) := hBRn
  clear hcell hBRe hkid hpg hBRS hBRn hBR
  gi_wp2
  refine wpIn_loop (fun a' w' => ∃ (va : Value) (dn st ds : List Nat) (u5 u6 u7 u8 u9 u10 u11 u12 u13 u14 u15 u16 u17 u18 u19 u20 u21 u22 u23 u24 u25 u26 u27 u28 u29 u30 u31 u32 u33 u34 u35 u36 u37 u38 u39 u40 u41 u42 u43 : Value), a' = { tmps := #[ptrV s, undef, .slice none 0 0, va, .pointer (some ⟨w.heap.size + 1, 0, none⟩), u5, u6, u7, u8, u9, u10, u11, u12, u13, u14, u15, u16, u17, u18, u19, u20, u21, u22, u23, u24, u25, u26, u27, u28, u29, u30, u31, u32, u33, u34, u35, u36, u37, u38, u39, u40, u41, u42, u43], defers := ds.map mark } ∧ BrInv S w s BR va dn st ds w') (fun a' _ => (BR s).length - lenV (a'.tmps.getD 3 undef)) ?start ?round
  case start =>
    refine ⟨.slice none 0 0, [], [s], [], _, _, _, _, _, _, _, _, _, _, _, _, _, _, _, _, _, _, _, _, _, _, _, _, _, _, _, _, _, _, _, _, _, _, _, _, _, _, _, rfl, ?_⟩
    refine ⟨.slice (some ⟨w.heap.size, 0, none⟩) 1 1, World.ownsRow_nil _ _ _ _, ?_, ?_, ?_, ?_, ?_, ?_, ?_, ?_⟩
    · have := Blk.new (w.alloc (.cells #[ptrV s] 46)) #[.slice (some ⟨w.heap.size, 0, none⟩) 1 1] 25
      rw [World.size_alloc] at this
      exact this
    · refine ⟨rfl, Or.inr ⟨w.heap.size, 1, #[ptrV s], rfl, Nat.le_refl _, (Blk.new w #[ptrV s] 46).alloc _, Nat.le_refl _, by unfold maxLen; omega, rfl, rfl⟩⟩
    · intro q hq; simp [Value.ownBlock] at hq
    · simp
    · intro x hx; simp at hx; subst hx; exact hs
    · exact ((Below.refl _ w).alloc (Nat.le_refl _) _).alloc (by simp) _
    · intro D hD; cases hD
    · exact List.nodup_nil
  case round =>
    rintro a' wr ⟨va, dn, st, ds, u5, u6, u7, u8, u9, u10, u11, u12, u13, u14, u15, u16, u17, u18, u19, u20, u21, u22, u23, u24, u25, u26, u27, u28, u29, u30, u31, u32, u33, u34, u35, u36, u37, u38, u39, u40, u41, u42, u43, rfl, vh, hA, hB, hH, hAH, hE, hSt, hW, hD, hDn⟩
    obtain ⟨ah, lh, ch, rfl⟩ := row_sh hH
    have hlh : lh = st.length := lenV_own hH
    subst hlh
    have hc0 := hB.cell 0 rfl
    have hf0 := hB.frozen 0
    have hsz := hW.size
    rcases List.eq_nil_or_concat st with rfl | ⟨st', b, rfl⟩
    · have HA : Hid (wr.ownsRow w.heap.size 46 1 va dn.length (dn.map ptrV)) := hA
      have HD : Hid (∀ D ∈ ds, wr.heap[D]? = some (.deferred (some [])) ∧ w.heap.size ≤ D) := hD
      clear hA hD hH hAH hB
      obtain ⟨aa, la, ca, rfl⟩ := row_sh HA
      gi_wp2
      have hk := putAll_keeps (base := w.heap.size) ds wr HD hDn
      refine leaves_marks ds wr (fun D h => ((show ∀ D ∈ ds, wr.heap[D]? = some (.deferred (some [])) ∧ w.heap.size ≤ D from HD) D h).1) hDn ?_
      refine ⟨_, results_tmp rfl _ _ _, _, rfl, ?_, ?_⟩
      · have e : BR s = dn := by rw [hE]; simp
        rw [e]
        obtain ⟨x1, x2⟩ := (show wr.ownsRow w.heap.size 46 1 (.slice aa la ca) dn.length (dn.map ptrV) from HA)
        refine ⟨x1, ?_⟩
        rcases x2 with x2 | ⟨g, cap, cur, y1, y2, y3, y4⟩
        · exact Or.inl x2
        · exact Or.inr ⟨g, cap, cur, y1, y2, hk.2.2 g _ _ _ y3, y4⟩
      · exact hW.trans ((hk.2.1).below hsz (fun k hk' => by omega))
    · rw [List.concat_eq_append] at *
      have hbS : b ∈ S := hSt b (by simp)
      obtain ⟨c2, r2, g2, c6⟩ := (show ∀ b ∈ S, w.cell? ⟨b, 2, none⟩ = some (us b) ∧ RowIs w (us b) (gb b) (kids b) ∧ gb b < w.heap.size ∧ w.cell? ⟨b, 6, none⟩ = some (.int .i64 (why b)) from HCELL) b hbS
      have hblt : b < w.heap.size := lt_of_cell c2
      have d2 : wr.cell? ⟨b, 2, none⟩ = some (us b) := (hW.cell (p := ⟨b, 2, none⟩) hblt).trans c2
      obtain ⟨gh, rfl⟩ : ∃ gh, ah = some ⟨gh, 0, none⟩ := by
        rcases hH.2 with ⟨h, h0⟩ | ⟨g, cap', cur, h, _⟩
        · simp at h0
        · injection h with h1
          exact ⟨g, h1⟩
      have hlen : (st' ++ [b]).length = st'.length + 1 := by simp
      rw [hlen] at hc0 hH
      rw [hlen] at hB
      have hcb : wr.cell? ⟨gh, st'.length, none⟩ = some (ptrV b) := by
        have := hH.cells (g := gh) rfl st'.length (ptrV b) (by simp)
        rwa [Addr.add_lit, Nat.zero_add] at this
      obtain ⟨aa, la, ca, rfl⟩ := row_sh hA
      obtain ⟨us1, us2, us3, husb⟩ : ∃ x y z, us b = .slice x y z := by
        rcases r2 with ⟨x, z, h, _⟩ | ⟨z, h, _⟩
        · exact ⟨_, _, _, h⟩
        · exact ⟨_, _, _, h⟩
      have hcap : st'.length + 1 ≤ ch := by
        rcases hH.2 with ⟨h, h0⟩ | ⟨g, cap', cur, h, _, _, h5, _⟩
        · omega
        · injection h with _ _ h3
          omega
      rw [husb] at d2
      have hself : ∀ x ∈ S, x ∈ BR x := fun x hx => by
        rw [(show ∀ b, b < w.heap.size → BR b = b :: ((kids b).filter (fun b => decide (why b = 0))).flatMap BR from HBRE) x (lt_of_cell ((show ∀ b ∈ S, w.cell? ⟨b, 2, none⟩ = some (us b) ∧ RowIs w (us b) (gb b) (kids b) ∧ gb b < w.heap.size ∧ w.cell? ⟨b, 6, none⟩ = some (.int .i64 (why b)) from HCELL) x hx).1)]
        simp
      obtain ⟨hL1, hL2⟩ := ahead_le (live := fun b => decide (why b = 0)) (K := kids b) hE HBRN HBRS (fun x hx => hself x (hSt x hx)) (TR.nodup b) ((show ∀ b ∈ S, ∀ k ∈ kids b, k ∈ S from HKID) b hbS) (fun k hk => (TR.up b k hk).1) (fun k hk hl => by
        rw [(show ∀ b, b < w.heap.size → BR b = b :: ((kids b).filter (fun b => decide (why b = 0))).flatMap BR from HBRE) b hblt]
        exact List.mem_cons_of_mem _ (List.mem_flatMap.2 ⟨k, List.mem_filter.2 ⟨hk, hl⟩, hself k ((show ∀ b ∈ S, ∀ k ∈ kids b, k ∈ S from HKID) b hbS k hk)⟩)) HANC
      have hst44 : st'.length < 17592186044416 := by omega
      clear hself
      have HH : Hid (wr.ownsRow w.heap.size 46 1 (.slice (some ⟨gh, 0, none⟩) (st'.length + 1) ch) (st'.length + 1) ((st' ++ [b]).map ptrV)) := hH
      have HB : Hid (Blk wr (w.heap.size + 1) #[.slice (some ⟨gh, 0, none⟩) (st'.length + 1) ch] 25) := hB
      have HD : Hid (∀ D ∈ ds, wr.heap[D]? = some (.deferred (some [])) ∧ w.heap.size ≤ D) := hD
      have HST : Hid (∀ x ∈ st' ++ [b], x ∈ S) := hSt
      have HAH : Hid (∀ q, (Value.slice aa la ca).ownBlock = some q → (Value.slice (some ⟨gh, 0, none⟩) (st' ++ [b]).length ch).ownBlock ≠ some q) := hAH
      have HE : Hid (BR s = dn ++ (st' ++ [b]).reverse.flatMap BR) := hE
      obtain ⟨W5, hW5⟩ : ∃ W5, wr.setCell ⟨w.heap.size + 1, 0, none⟩ (.slice (some ⟨gh, 0, none⟩) st'.length ch) = W5 := ⟨_, rfl⟩
      have U5 : Upd (fun k => k = w.heap.size + 1) wr W5 := by rw [← hW5]; exact (Upd.refl (fun k => k = w.heap.size + 1) wr).setCell (p := ⟨w.heap.size + 1, 0, none⟩) (fun _ => rfl) _
      have B5 : Blk W5 (w.heap.size + 1) #[.slice (some ⟨gh, 0, none⟩) st'.length ch] 25 := by
        have := hB.set 0 (.slice (some ⟨gh, 0, none⟩) st'.length ch)
        rw [hW5] at this
        simpa using this
      have A5 : W5.ownsRow w.heap.size 46 1 (.slice aa la ca) dn.length (dn.map ptrV) := ownsRow_upd hA U5 (fun k hk e => ownsRow_ne hA hB (by decide) hk e)
      have H5 : W5.ownsRow w.heap.size 46 1 (.slice (some ⟨gh, 0, none⟩) st'.length ch) st'.length (st'.map ptrV) := by
        have := ownsRow_upd hH U5 (fun k hk e => ownsRow_ne hH hB (by decide) hk e)
        rcases this.2 with ⟨h, h0⟩ | ⟨g, cap', cur, h, z1, z2, z3, z4, z5, z6⟩
        · cases h
        · injection h with h1 _ h3
          injection h1 with h1
          injection h1 with h1
          subst h1; subst h3
          refine ⟨by simp, Or.inr ⟨gh, ch, cur, rfl, z1, z2, by omega, z4, z5, ?_⟩⟩
          have e1 : cur.toList.take (st'.length * 1) = (cur.toList.take ((st'.length + 1) * 1)).take st'.length := by rw [List.take_take]; congr 1; omega
          rw [e1, z6]
          simp
      have D5 : ∀ D ∈ ds, W5.heap[D]? = some (.deferred (some [])) ∧ w.heap.size ≤ D := by
        intro D h
        obtain ⟨h1, h2⟩ := hD D h
        refine ⟨?_, h2⟩
        rw [U5.block D (Array.getElem?_eq_some_iff.1 h1).1 ?_]
        · exact h1
        · rintro rfl
          have := hB
          unfold Blk at this
          rw [this] at h1
          cases h1
      have hW5b : Below w.heap.size w W5 := hW.trans (U5.below hsz (fun k hk => by omega))
      have d5 : W5.cell? ⟨b, 2, none⟩ = some (.slice us1 us2 us3) := by
        rw [← d2]
        simp only [World.cell?, U5.block b (by omega) (by omega)]
      have hsz5 := hW5b.size
      obtain rfl : la = dn.length := lenV_own hA
      have hAH' : ∀ q, (Value.slice aa dn.length ca).ownBlock = some q → q ≠ gh := fun q hq e => hAH q hq (by simp [Value.ownBlock, e])
      have HAH2 : Hid (∀ q, (Value.slice aa dn.length ca).ownBlock = some q → q ≠ gh) := hAH'
      have HD5 : Hid (∀ D ∈ ds, W5.heap[D]? = some (.deferred (some [])) ∧ w.heap.size ≤ D) := D5
      have HB5 : Hid (Blk W5 (w.heap.size + 1) #[.slice (some ⟨gh, 0, none⟩) st'.length ch] 25) := B5
      have HH5 : Hid (W5.ownsRow w.heap.size 46 1 (.slice (some ⟨gh, 0, none⟩) st'.length ch) st'.length (st'.map ptrV)) := H5
      clear hH hB hD hSt hAH hE hlen hAH' D5 B5 H5 hA
      gi_wp2_with (gi_at_builtin; refine wpListIn_app _ rfl (.tmp 24) (.tmp 26) 25 25 rfl w.heap.size 46 i0 (.pointer none) 8 Try.underlying25 hi hz0 hz1 hz2 rfl _ _ _ rfl (A5.alloc _) _ 1 [ptrV b] rfl (Src.ofSlice _ Try.underlying25 ⟨W5.heap.size, 0, none⟩ 1 1 _ rfl ?c1 ?c2) ?c3 ?c4 ?c5 ?_)
      case c1 =>
        intro j u hj
        match j, hj with
        | 0, hj => simp at hj; subst hj; simp [Addr.add]
      case c2 => intro u hu; simp at hu; subst hu; rfl
      case c3 => unfold maxLen; omega
      case c4 => omega
      case c5 => simp; omega
      intro v6 W6 A6 G6 M6
      have U6 : Upd (fun k => (Value.slice aa dn.length ca).ownBlock = some k) W5 W6 := ((Upd.refl _ W5).alloc _).grown G6 (fun i _ e => e)
      obtain ⟨g6, cap6, rfl⟩ := ownsRow_sl A6
      have hghl := ownsRow_base (show W5.ownsRow w.heap.size 46 1 (.slice (some ⟨gh, 0, none⟩) st'.length ch) st'.length (st'.map ptrV) from HH5) (g := gh) rfl
      have hg6 : g6 ≠ gh := by
        rcases M6 with m | ⟨q, m, hq⟩
        · exact (show ∀ q, (Value.slice aa dn.length ca).ownBlock = some q → q ≠ gh from HAH2) g6 (m.symm.trans rfl)
        · simp [Value.ownBlock] at m
          subst m
          simp at hq
          omega
      have B6 : Blk W6 (w.heap.size + 1) #[.slice (some ⟨gh, 0, none⟩) st'.length ch] 25 := Blk.upd (show Blk W5 _ _ _ from HB5) (U6.block _ (Blk.lt (show Blk W5 _ _ _ from HB5)) (fun e => ownsRow_ne A5 (show Blk W5 _ _ _ from HB5) (by decide) e rfl))
      have H6 : W6.ownsRow w.heap.size 46 1 (.slice (some ⟨gh, 0, none⟩) st'.length ch) st'.length (st'.map ptrV) := ownsRow_upd (show W5.ownsRow _ _ _ _ _ _ from HH5) U6 (fun k hk e => (show ∀ q, (Value.slice aa dn.length ca).ownBlock = some q → q ≠ gh from HAH2) k e (by simp [Value.ownBlock] at hk; exact hk.symm))
      have D6 : ∀ D ∈ ds, W6.heap[D]? = some (.deferred (some [])) ∧ w.heap.size ≤ D := by
        intro D h
        obtain ⟨h1, h2⟩ := (show ∀ D ∈ ds, W5.heap[D]? = some (.deferred (some [])) ∧ w.heap.size ≤ D from HD5) D h
        refine ⟨?_, h2⟩
        rw [U6.block D (Array.getElem?_eq_some_iff.1 h1).1 ?_]
        · exact h1
        · intro e
          obtain ⟨_, _, c, hc⟩ := ownsRow_base A5 e
          unfold Blk at hc
          rw [hc] at h1
          cases h1
      have W6b : Below w.heap.size w W6 := hW5b.trans (U6.below hsz5 (fun k hk e => by have := (ownsRow_base A5 e).1; omega))
      have d6 : W6.cell? ⟨b, 2, none⟩ = some (.slice us1 us2 us3) := by
        rw [← d5]
        simp only [World.cell?, U6.block b (by omega) (fun e => by have := (ownsRow_base A5 e).1; omega)]
      have hsz6 := W6b.size
      have hgh6 : gh < W6.heap.size := by have := U6.size; omega
      have HA6 : Hid (W6.ownsRow w.heap.size 46 1 (.slice (some ⟨g6, 0, none⟩) (dn.length + 1) cap6) (dn.length + 1) (dn.map ptrV ++ [ptrV b])) := A6
      have HD6 : Hid (∀ D ∈ ds, W6.heap[D]? = some (.deferred (some [])) ∧ w.heap.size ≤ D) := D6
      clear A6 G6 M6 U6 D6 A5 U5 hghl HD5 HB5 HH5 HAH2 HAH HD
      gi_wp2_with (first | (gi_at_call 59; refine (back_in Fence.wide _ trivial rfl _ _ _ _).mono ?_; rintro e w' ⟨rfl, rfl⟩) | (refine ⟨trivial, ?_⟩; gi_at_call 59; refine (back_in Fence.wide _ trivial rfl _ _ _ _).mono ?_; rintro e w' ⟨rfl, rfl⟩))
      have hX := Blk.new W6 #[.slice us1 us2 us3] 25
      have hrow6 : RowIs (W6.alloc (.cells #[.slice us1 us2 us3] 25)) (.slice us1 us2 us3) (gb b) (kids b) := by
        rw [← husb]
        exact r2.same ((Below.heap_alloc W6 _ (gb b) (by omega)).trans (W6b.block (gb b) g2))
      obtain ⟨W7, hW7⟩ : ∃ W7, W6.alloc (.cells #[.slice us1 us2 us3] 25) = W7 := ⟨_, rfl⟩
      have hs7 : W7.heap.size = W6.heap.size + 1 := by rw [← hW7]; simp
      have B7 : Blk W7 (w.heap.size + 1) #[.slice (some ⟨gh, 0, none⟩) st'.length ch] 25 := by rw [← hW7]; exact B6.alloc _
      have H7 : W7.ownsRow w.heap.size 46 1 (.slice (some ⟨gh, 0, none⟩) st'.length ch) st'.length (st'.map ptrV) := by rw [← hW7]; exact H6.alloc _
      have A7 : W7.ownsRow w.heap.size 46 1 (.slice (some ⟨g6, 0, none⟩) (dn.length + 1) cap6) (dn.length + 1) (dn.map ptrV ++ [ptrV b]) := by rw [← hW7]; exact World.ownsRow.alloc (show W6.ownsRow _ _ _ _ _ _ from HA6) _
      have W7b : Below w.heap.size w W7 := by rw [← hW7]; exact W6b.alloc hsz6 _
      have D7 : ∀ D ∈ ds, W7.heap[D]? = some (.deferred (some [])) ∧ w.heap.size ≤ D ∧ D < W7.heap.size := by
        intro D h
        obtain ⟨h1, h2⟩ := (show ∀ D ∈ ds, W6.heap[D]? = some (.deferred (some [])) ∧ w.heap.size ≤ D from HD6) D h
        have h3 : D < W6.heap.size := (Array.getElem?_eq_some_iff.1 h1).1
        rw [← hW7]
        exact ⟨(Below.heap_alloc W6 _ D h3).trans h1, h2, by simp; omega⟩
      have hB0X : w.heap.size + 1 < W6.heap.size := B6.lt
      rw [hW7] at hX hrow6
      rw [hW7]
      have hkl : (kids b).length * 8 ≤ 140737488355328 := by omega
      refine wpIn_rangeFunc_ownG (F := Fence.wide) rfl (by omega) (gf := 69) (lb := #[.pointer (some ⟨W6.heap.size, 0, none⟩)]) rfl trivial (enters_of Try.func69 (by kernel_rfl) rfl)
        (back_stops Fence.wide _ trivial rfl (by omega) W6.heap.size (gb b) (.slice us1 us2 us3) (kids b) hkl W7 (by omega) (by omega) (hX.cell 0 rfl) hrow6) KpB.trans (KpB.put (by omega) (by omega)) (Below.refl _ _) (fun _ => rfl)
        (fun pre W => ∃ vh, Blk W (w.heap.size + 1) #[vh] 25 ∧ W.ownsRow w.heap.size 46 1 vh (st' ++ (pre.map (fun x => x.1.2)).filter (fun b => decide (why b = 0))).length ((st' ++ (pre.map (fun x => x.1.2)).filter (fun b => decide (why b = 0))).map ptrV) ∧ vh.ownBlock ≠ some g6 ∧ W.ownsRow w.heap.size 46 1 (.slice (some ⟨g6, 0, none⟩) (dn.length + 1) cap6) (dn.length + 1) (dn.map ptrV ++ [ptrV b]) ∧ Below w.heap.size w W ∧ (∀ D ∈ ds, W.heap[D]? = some (.deferred (some [])) ∧ w.heap.size ≤ D ∧ D < W7.heap.size) ∧ Blk W W6.heap.size #[.slice us1 us2 us3] 25)
        (fun _ _ _ => False) ?hI (fun _ _ _ _ _ h _ _ => h) ?h0
        (fun x => { tmps := #[ptrV s, undef, .slice none 0 0, .slice (some ⟨g6, 0, none⟩) (dn.length + 1) cap6, .pointer (some ⟨w.heap.size + 1, 0, none⟩), .int .i64 (st'.length : Int), ptrV b, u7, ptrV x.1.2, u9, u10, .slice (some ⟨gh, 0, none⟩) (st'.length + 1) ch, .int .i64 ((st'.length : Int) + 1), .bool true, .slice (some ⟨gh, 0, none⟩) (st'.length + 1) ch, .int .i64 ((st'.length : Int) + 1), .int .i64 (st'.length : Int), .slice (some ⟨gh, 0, none⟩) (st'.length + 1) ch, .int .i64 (st'.length : Int), .pointer (some ⟨gh, st'.length, none⟩), ptrV b, .slice (some ⟨gh, 0, none⟩) (st'.length + 1) ch, .int .i64 (st'.length : Int), .slice (some ⟨gh, 0, none⟩) st'.length ch, .slice aa dn.length ca, ptrV b, .slice (some ⟨W5.heap.size, 0, none⟩) 1 1, .slice (some ⟨g6, 0, none⟩) (dn.length + 1) cap6, ptrV b, .pointer (some ⟨b, 0, none⟩), .pointer (some ⟨b, 2, none⟩), .pointer (some ⟨b, 2, none⟩), .slice us1 us2 us3, .func (.func 69) #[] #[.pointer (some ⟨W6.heap.size, 0, none⟩)], .int .i64 (x.1.1 : Int), ptrV x.1.2, u36, u37, u38, u39, u40, u41, u42, u43], defers := [] }) ?assign ?body ?done ?stop
      case hI =>
        rintro pre X Y row ⟨vh, a1, a2, a3, a4, a5, a6, a7⟩ hg hr
        have hr' : ∀ r, row = some r → ∃ o : Obj, X.heap[r]? = some o ∧ o.isCells = false := fun r e => (hr r e).2
        refine ⟨vh, a1.nc hg hr', ownsRow_nc a2 hg hr', a3, ownsRow_nc a4 hg hr', ?_, ?_, a7.nc hg hr'⟩
        · exact a5.trans (⟨hg.os, hg.tape, hg.output, hg.size, fun k hk => hg.block k (by have := a5.size; omega) (fun e => by have := (hr k e.symm).1; omega)⟩)
        · intro D hD
          obtain ⟨x1, x2, x3⟩ := a6 D hD
          refine ⟨?_, x2, x3⟩
          rw [hg.block D (Array.getElem?_eq_some_iff.1 x1).1 (fun e => by have := (hr D e.symm).1; omega)]
          exact x1
      case h0 =>
        exact ⟨_, B7, by simpa using H7, by simp [Value.ownBlock]; exact fun e => hg6 e.symm, A7, W7b, D7, hX⟩
      case assign =>
        intro l x W K hK
        gi_wp2
        exact hK
      case body =>
        rintro l pre ⟨⟨iy, y⟩, hyk⟩ W ⟨vh, a1, a2, a3, a4, a5, a6, a7⟩ hpre
        have hyk' : y ∈ kids b := hyk
        have hyS : y ∈ S := (show ∀ b ∈ S, ∀ k ∈ kids b, k ∈ S from HKID) b hbS y hyk'
        have hy6' := ((show ∀ b ∈ S, w.cell? ⟨b, 2, none⟩ = some (us b) ∧ RowIs w (us b) (gb b) (kids b) ∧ gb b < w.heap.size ∧ w.cell? ⟨b, 6, none⟩ = some (.int .i64 (why b)) from HCELL) y hyS).2.2.2
        have hylt : y < w.heap.size := lt_of_cell hy6'
        have hy6 : W.cell? ⟨y, 6, none⟩ = some (.int .i64 (why y)) := (a5.cell (p := ⟨y, 6, none⟩) hylt).trans hy6'
        have hszW := a5.size
        obtain ⟨P, hP⟩ : ∃ P, (pre.map (fun x => x.1.2)).filter (fun b => decide (why b = 0)) = P := ⟨_, rfl⟩
        have hPl : P.length < (kids b).length := by
          rw [← hP]
          have := List.length_filter_le (fun b => decide (why b = 0)) (pre.map (fun x => x.1.2))
          rw [List.length_map] at this
          omega
        rw [hP] at a2
        have hstep : ((pre ++ [(⟨(iy, y), hyk⟩ : Item (kids b))]).map (fun x => x.1.2)).filter (fun b => decide (why b = 0)) = P ++ ([y].filter (fun b => decide (why b = 0))) := by
          rw [List.map_append, List.filter_append, hP]; rfl
        obtain ⟨av, lv, cv, rfl⟩ := row_sh a2
        obtain rfl : lv = (st' ++ P).length := lenV_own a2
        have hc0 := a1.cell 0 rfl
        have hf0 := a1.frozen 0
        have HA2 : Hid (W.ownsRow w.heap.size 46 1 (.slice av (st' ++ P).length cv) (st' ++ P).length ((st' ++ P).map ptrV)) := a2
        have hvb : ∀ q, (Value.slice av (st' ++ P).length cv).ownBlock = some q → w.heap.size ≤ q ∧ q < W.heap.size ∧ ∃ c, Blk W q c 46 := fun q hq => ownsRow_base a2 hq
        have HVB : Hid (∀ q, (Value.slice av (st' ++ P).length cv).ownBlock = some q → w.heap.size ≤ q ∧ q < W.heap.size ∧ ∃ c, Blk W q c 46) := hvb
        have HA6' : Hid (∀ D ∈ ds, W.heap[D]? = some (.deferred (some [])) ∧ w.heap.size ≤ D ∧ D < W7.heap.size) := a6
        have hlen2 : (st' ++ P).length = st'.length + P.length := by simp
        have hX7 : Hid (Blk W W6.heap.size #[.slice us1 us2 us3] 25) := a7
        have hB7' : Hid (Blk W (w.heap.size + 1) #[.slice av (st' ++ P).length cv] 25) := a1
        have HA4 : Hid (W.ownsRow w.heap.size 46 1 (.slice (some ⟨g6, 0, none⟩) (dn.length + 1) cap6) (dn.length + 1) (dn.map ptrV ++ [ptrV b])) := a4
        have hqb : ((st' ++ P).length + 1) * 8 ≤ 140737488355328 := by omega
        generalize hq : (st' ++ P).length = q at *
        have HQ : Hid ((st' ++ P).length = q) := hq
        clear hvb a6 a7 a1 a4 hlen2 hq
        by_cases hyw : why y = 0
        · have hdc : decide (why y ≠ 0) = false := by simp [hyw]
          gi_wp2_with (first
            | (gi_at_call 38; refine (CallsIn.inRound l (callsIn_wide.2 (over_any y (why y) _ hy6))).mono ?_; rintro e w' ⟨rfl, hw⟩; obtain rfl := hw.symm; rw [hdc])
            | (refine ⟨trivial, ?_⟩; gi_at_call 38; refine (CallsIn.inRound l (callsIn_wide.2 (over_any y (why y) _ hy6))).mono ?_; rintro e w' ⟨rfl, hw⟩; obtain rfl := hw.symm; rw [hdc])
            | (gi_at_builtin; refine wpListIn_app _ rfl (.tmp 39) (.tmp 41) 25 25 rfl w.heap.size 46 i0 (.pointer none) 8 Try.underlying25 hi hz0 hz1 hz2 rfl _ _ _ rfl (a2.alloc _) _ 1 [ptrV y] rfl (Src.ofSlice _ Try.underlying25 ⟨W.heap.size, 0, none⟩ 1 1 _ rfl ?c1 ?c2) ?c3 ?c4 ?c5 ?_))
          case c1 =>
            intro j u hj
            match j, hj with
            | 0, hj => simp at hj; subst hj; simp [Addr.add]
          case c2 => intro u hu; simp at hu; subst hu; rfl
          case c3 => unfold maxLen; omega
          case c4 => omega
          case c5 => simp; omega
          intro v8 W8 A8 G8 M8
          obtain ⟨g8, cap8, rfl⟩ := ownsRow_sl A8
          have U8 : Upd (fun k => (Value.slice av q cv).ownBlock = some k) W W8 := ((Upd.refl _ W).alloc _).grown G8 (fun i _ e => e)
          have nb : ∀ {k : Nat} {c : Array Value} {T : TypeId}, Blk W k c T → T ≠ 46 → ¬ (Value.slice av q cv).ownBlock = some k := fun hk hT e => ownsRow_ne (show W.ownsRow _ _ _ _ _ _ from HA2) hk hT e rfl
          have B8 : Blk W8 (w.heap.size + 1) #[.slice av q cv] 25 := Blk.upd (show Blk W _ _ _ from hB7') (U8.block _ (Blk.lt (show Blk W _ _ _ from hB7')) (nb (show Blk W _ _ _ from hB7') (by decide)))
          have hc8 := B8.cell 0 rfl
          have hf8 := B8.frozen 0
          have HA8 : Hid (W8.ownsRow w.heap.size 46 1 (.slice (some ⟨g8, 0, none⟩) (q + 1) cap8) (q + 1) ((st' ++ P).map ptrV ++ [ptrV y])) := by
            show W8.ownsRow _ _ _ _ _ _
            rw [List.map_append, List.append_assoc]; exact A8
          have hg68 : g8 ≠ g6 := by
            rcases M8 with m | ⟨q', m, hq'⟩
            · intro e
              subst e
              exact a3 (m.symm.trans rfl)
            · simp [Value.ownBlock] at m
              subst m
              have := (ownsRow_base (show W.ownsRow _ _ _ _ _ _ from HA4) (g := g6) rfl).2.1
              simp at hq'
              omega
          clear A8 G8 M8
          gi_wp2
          obtain ⟨W9, hW9⟩ : ∃ W9, W8.setCell ⟨w.heap.size + 1, 0, none⟩ (.slice (some ⟨g8, 0, none⟩) (q + 1) cap8) = W9 := ⟨_, rfl⟩
          have U9 : Upd (fun k => k = w.heap.size + 1) W8 W9 := by rw [← hW9]; exact (Upd.refl (fun k => k = w.heap.size + 1) W8).setCell (p := ⟨w.heap.size + 1, 0, none⟩) (fun _ => rfl) _
          have B9 : Blk W9 (w.heap.size + 1) #[.slice (some ⟨g8, 0, none⟩) (q + 1) cap8] 25 := by
            have := B8.set 0 (.slice (some ⟨g8, 0, none⟩) (q + 1) cap8)
            rw [hW9] at this
            simpa using this
          have hB0 := Blk.lt (show Blk W _ _ _ from hB7')
          have UU : ∀ k, k < W.heap.size → k ≠ w.heap.size + 1 → ¬ (Value.slice av q cv).ownBlock = some k → W9.heap[k]? = W.heap[k]? := fun k hk h1 h2 => (U9.block k (by have := U8.size; omega) h1).trans (U8.block k hk h2)
          have hlow : ∀ k, k < w.heap.size → W9.heap[k]? = W.heap[k]? := fun k hk => UU k (by omega) (by omega) (fun e => by have := ((show ∀ q', (Value.slice av q cv).ownBlock = some q' → w.heap.size ≤ q' ∧ q' < W.heap.size ∧ ∃ c, Blk W q' c 46 from HVB) k e).1; omega)
          have hU8o : Upd (fun k => w.heap.size ≤ k) W W9 := (U8.mono (S' := fun k => w.heap.size ≤ k) (fun i _ e => ((show ∀ q', (Value.slice av q cv).ownBlock = some q' → w.heap.size ≤ q' ∧ q' < W.heap.size ∧ ∃ c, Blk W q' c 46 from HVB) i e).1)).trans U9 (fun i _ e => by omega)
          have hx9 : Blk W9 W6.heap.size #[.slice us1 us2 us3] 25 := Blk.upd (show Blk W _ _ _ from hX7) (UU _ (Blk.lt (show Blk W _ _ _ from hX7)) (by omega) (nb (show Blk W _ _ _ from hX7) (by decide)))
          have A9 : W9.ownsRow w.heap.size 46 1 (.slice (some ⟨g8, 0, none⟩) (q + 1) cap8) (q + 1) ((st' ++ P).map ptrV ++ [ptrV y]) := ownsRow_upd (show W8.ownsRow _ _ _ _ _ _ from HA8) U9 (fun k hk e => ownsRow_ne (show W8.ownsRow _ _ _ _ _ _ from HA8) B8 (by decide) hk e)
          have hmarks : ∀ (D : Nat) (o : Obj), W.heap[D]? = some o → o.isCells = false → W9.heap[D]? = some o := by
            intro D o hD ho
            rw [UU D (Array.getElem?_eq_some_iff.1 hD).1 ?_ ?_]
            · exact hD
            · rintro rfl
              have := (show Blk W _ _ _ from hB7')
              unfold Blk at this
              rw [this] at hD
              cases hD
              cases ho
            · intro e
              obtain ⟨_, _, c, hc⟩ := (show ∀ q', (Value.slice av q cv).ownBlock = some q' → w.heap.size ≤ q' ∧ q' < W.heap.size ∧ ∃ c, Blk W q' c 46 from HVB) D e
              unfold Blk at hc
              rw [hc] at hD
              cases hD
              cases ho
          rw [hW9]
          refine ⟨⟨hU8o.size, fun k o _ hk ho => hmarks k o hk ho⟩, ⟨hx9.trans (show Blk W _ _ _ from hX7).symm, hlow (gb b) g2⟩, _, B9, ?_, ?_, ?_, a5.trans (hU8o.below hszW (fun k hk => by omega)), ?_, hx9⟩
          · rw [hstep]
            have e : st' ++ (P ++ [y].filter (fun b => decide (why b = 0))) = (st' ++ P) ++ [y] := by simp [hyw]
            rw [e, List.length_append, show (st' ++ P).length = q from HQ, List.map_append]
            exact A9
          · simp [Value.ownBlock]; exact hg68
          · refine ownsRow_upd (show W.ownsRow _ _ _ _ _ _ from HA4) (S := fun k => k = w.heap.size + 1 ∨ (Value.slice av q cv).ownBlock = some k) ?_ ?_
            · exact (U8.mono (fun i _ e => Or.inr e)).trans U9 (fun i _ e => Or.inl e)
            · intro k hk e
              rcases e with e | e
              · exact ownsRow_ne (show W.ownsRow _ _ _ _ _ _ from HA4) (show Blk W _ _ _ from hB7') (by decide) hk e
              · simp [Value.ownBlock] at hk
                subst hk
                exact a3 e
          · intro D hD
            obtain ⟨x1, x2, x3⟩ := (show ∀ D ∈ ds, W.heap[D]? = some (.deferred (some [])) ∧ w.heap.size ≤ D ∧ D < W7.heap.size from HA6') D hD
            exact ⟨hmarks D _ x1 rfl, x2, x3⟩
        · have hdc : decide (why y ≠ 0) = true := by simp [hyw]
          gi_wp2_with (first
            | (gi_at_call 38; refine (CallsIn.inRound l (callsIn_wide.2 (over_any y (why y) _ hy6))).mono ?_; rintro e w' ⟨rfl, hw⟩; obtain rfl := hw.symm; rw [hdc])
            | (refine ⟨trivial, ?_⟩; gi_at_call 38; refine (CallsIn.inRound l (callsIn_wide.2 (over_any y (why y) _ hy6))).mono ?_; rintro e w' ⟨rfl, hw⟩; obtain rfl := hw.symm; rw [hdc]))
          refine ⟨KeepsFrom.refl _ _, ⟨rfl, rfl⟩, _, hB7', ?_, a3, HA4, a5, HA6', hX7⟩
          rw [hstep]
          have e : st' ++ (P ++ [y].filter (fun b => decide (why b = 0))) = st' ++ P := by simp [hyw]
          rw [e, show (st' ++ P).length = q from HQ]
          exact HA2
      case done =>
        rintro D xs W hD hxs ⟨vh, a1, a2, a3, a4, a5, a6, a7⟩ hK
        have hxs' : xs.map (fun x => x.1.2) = (kids b).reverse := hxs
        rw [hxs'] at a2
        have hDn' : (D :: ds).Nodup := List.nodup_cons.2 ⟨fun h => by have := (a6 D h).2.2; omega, hDn⟩
        have hlive : ∀ x ∈ (kids b).reverse.filter (fun b => decide (why b = 0)), x ∈ S := fun x hx => (show ∀ b ∈ S, ∀ k ∈ kids b, k ∈ S from HKID) b hbS x (List.mem_reverse.1 (List.mem_filter.1 hx).1)
        have hEE : BR s = (dn ++ [b]) ++ (st' ++ (kids b).reverse.filter (fun b => decide (why b = 0))).reverse.flatMap BR := by
          rw [show BR s = dn ++ (st' ++ [b]).reverse.flatMap BR from HE]
          rw [List.reverse_append, List.reverse_append, List.reverse_cons, List.reverse_nil, List.nil_append, List.singleton_append, List.flatMap_cons, List.flatMap_append]
          rw [(show ∀ b, b < w.heap.size → BR b = b :: ((kids b).filter (fun b => decide (why b = 0))).flatMap BR from HBRE) b hblt]
          rw [List.filter_reverse, List.reverse_reverse]
          simp
        have hll : dn.length + 1 ≤ (BR s).length := by
          rw [hEE]; simp
        gi_wp2
        refine ⟨⟨_, dn ++ [b], st' ++ (kids b).reverse.filter (fun b => decide (why b = 0)), D :: ds, _, _, _, _, _, _, _, _, _, _, _, _, _, _, _, _, _, _, _, _, _, _, _, _, _, _, _, _, _, _, _, _, _, _, _, _, _, _, _, rfl, vh, ?_, a1, a2, ?_, hEE, ?_, a5, ?_, hDn'⟩, ?_⟩
        · simpa using a4
        · intro q hq
          simp [Value.ownBlock] at hq
          subst hq
          exact a3
        · intro x hx
          rcases List.mem_append.1 hx with h | h
          · exact (show ∀ x ∈ st' ++ [b], x ∈ S from HST) x (by simp [h])
          · exact hlive x h
        · intro D' hD'
          rcases List.mem_cons.1 hD' with rfl | h
          · exact ⟨hK, by omega⟩
          · exact ⟨(a6 D' h).1, (a6 D' h).2.1⟩
        · simp [lenV]
          omega
      case stop =>
        rintro D c pre W _ _ h _
        exact h.elim
end Go.Proofs.Ytmepapbbebddiaa
