/-
  Contracts: the reference's head.
-/
import Derived.Test.YtkfefebjciolcaaRh
import Derived.Test.YtkfefebjciolcaaSh2
import Derived.Lib.SlBytesConst
namespace Go.Proofs.Ytkfefebjciolcaa
open Go.RowKit
set_option maxRecDepth 100000

/-- An append to a slice without room: a row of one's own comes of it. -/
theorem wpList_full {P : Program} (w : World) {ops : Array Oper} {rest : List Oper} {o : Oper} {a : Act} {Q : Exit → Act → World → Prop} (hgd : o.guard = none) (s x : Operand) (t tx : TypeId)
    (ho : o.op = .call { callee := .builtin .append, args := #[s, x], argTypes := #[t, tx] })
    (base : Nat) (e : TypeId) (i : TypeInfo) (z : Value) (ht : P.underlying t = some (.slice e)) (hi : P.info? e = some i) (hz : i.zero = some z) (hsize : i.size = 1) (hby : i.bytes = 1) (hzs : z.cells.size = 1)
    (ad : Addr) (n : Nat) (xs : List Value) (hv : a.eval s = .slice (some ad) n n) (hxl : xs.length = n) (hcells : ∀ j u, xs[j]? = some u → w.cell? (ad.add j) = some u) (y : Value) (m : Nat) (news : List Value) (hx : a.eval x = y) (hs : Src P 1 tx y m news w) (hm : 0 < m)
    (hbytes : n + m ≤ 140737488355328) (hbase : base ≤ w.heap.size)
    (h : ∀ v' w', w'.ownsRow base e 1 v' (n + m) (xs ++ news) → Below w.heap.size w w' → v'.ownBlock = some w.heap.size → wpList P ops Q rest (a.put o.dst v') w') : wpList P ops Q (o :: rest) a w := by
  refine wpList_plain hgd fun K hK => ?_
  have hs' : Src P i.size tx y m news w := by rw [hsize]; exact hs
  have hnl : news.length = m := by have := hs.newsLen; omega
  have hold := run_firstCells_some (P := P) w.drew i.size n ad n n xs (by rw [hsize]; omega) (by simpa using hcells)
  have hr := run_append_grow_src (P := P) w t tx o.type e i z ht hi hz (some ad) n n xs hold y m news hs' (by omega) (by omega) (growslice_fits (by omega) (by rw [hby]; omega))
  have hge := grownCap_ge w (n + m) n e
  have hmx : n + m ≤ maxLen := by unfold maxLen; omega
  unfold Oper.wp execOp
  simp only [ho, resolve, invoke, builtin, Sem.run_bind, Sem.run_pure, Result.andThen_ok, List.map_toArray, List.map_cons, List.map_nil, hv, hx, hr]
  refine hK _ _ (h _ _ ⟨by simp; omega, Or.inr ⟨w.heap.size, _, _, rfl, hbase, heap_alloc_new w.drew _, hge, grownCap_le_maxLen w (n + m) n e hmx, ?_, ?_⟩⟩ ⟨rfl, rfl, rfl, by simp, fun k hk => Below.heap_alloc w.drew _ k hk⟩ rfl)
  · simp only [Array.size_append, List.size_toArray, size_zeroCells, hzs, List.length_append]
    omega
  · simp only [Array.toList_append]
    rw [show (n + m) * 1 = (xs ++ news).length by simp; omega]
    exact List.take_left

/-- big of a list without room, one byte. -/
theorem refBig_full (ad : Addr) (L : List Int) (x : Nat) (w : World) (hcells : ∀ j u, (L.map (Value.int .u8))[j]? = some u → w.cell? (ad.add j) = some u) (hlen : L.length + 1 ≤ 140737488355328) :
    Calls Try.prog 25 #[.slice (some ad) L.length L.length, .int .u64 (x : Int), .int .i64 1] w fun e w' => ∃ v', e = .returned v' ∧ w'.ownsRow w.heap.size 5 1 v' (L ++ bigL x 1).length ((L ++ bigL x 1).map (Value.int .u8)) ∧ Below w.heap.size w w' := by
  obtain ⟨i0, hi, hz0, hz1, hz2⟩ := info_parts Try.info5
  have hbl : bigL x 1 = [((x % 256 : Nat) : Int)] := by simp [bigL]
  rw [hbl]
  have HLL : Hid ((L.map (Value.int .u8)).length = L.length) := by rw [List.length_map]; exact rfl
  go_enter Try.func25, Try.ntmps25
  go_wp2
  go_loopw [0, 7] (fun a b wr => (a = .slice (some ad) L.length L.length ∧ b = .int .i64 0 ∧ wr = w) ∨ (b = .int .i64 (-1) ∧ wr.ownsRow w.heap.size 5 1 a (L ++ [((x % 256 : Nat) : Int)]).length ((L ++ [((x % 256 : Nat) : Int)]).map (Value.int .u8)) ∧ Below w.heap.size w wr)) (fun _ b _ => (intOf b + 1).toNat)
  case atStart => exact Or.inl ⟨rfl, rfl, rfl⟩
  case round =>
    rcases hrel with ⟨rfl, rfl, rfl⟩ | ⟨rfl, hO, hB⟩
    · go_wp2_with (at_builtin; refine wpList_full _ rfl (.tmp 14) (.tmp 20) 23 23 rfl wr.heap.size 5 i0 (.int .u8 0) Try.underlying23 hi hz0 hz1 hz2 rfl ad L.length (L.map (Value.int .u8)) rfl HLL.out ?c0 _ 1 [.int .u8 ((x : Int) % 256)] rfl (Src.ofSlice _ Try.underlying23 ⟨wr.heap.size, 0, none⟩ 1 1 _ rfl ?c1 ?c2) (by omega) ?c4 ?c5 ?_)
      case c0 =>
        intro j u hj
        have hc := hcells j u hj
        rw [World.cell?_alloc_lt _ _ _ (World.block_lt_of_cell? wr _ hc)]
        exact hc
      case c1 =>
        intro j u hj
        match j, hj with
        | 0, hj => simp at hj; subst hj; simp [Addr.add]
      case c2 => intro u hu; simp at hu; subst hu; rfl
      case c4 => exact hlen
      case c5 => simp
      intro v' w2 ho hb hob
      obtain ⟨ao, l, c, rfl⟩ := row_shape ho
      have hB : Below wr.heap.size wr w2 := ((Below.refl _ _).alloc (Nat.le_refl _) _).trans (hb.mono (by simp))
      clear hb hob
      go_wp2
      go_roundw
      case rel => exact Or.inr ⟨rfl, by simpa using ho, hB⟩
      case measure => simp [intOf]
    · obtain ⟨ao, l, c, rfl⟩ := row_shape hO
      go_wp2
      go_ret
      exact ⟨_, rfl, hO, hB⟩

theorem own_base {w : World} {base base' : Nat} {e : TypeId} {size : Nat} {v : Value} {n : Nat} {xs : List Value} (h : w.ownsRow base e size v n xs) (hb : base' ≤ base) : w.ownsRow base' e size v n xs :=
  ⟨h.1, h.2.elim Or.inl (fun ⟨g, cap, cur, hv, hg, r⟩ => Or.inr ⟨g, cap, cur, hv, Nat.le_trans hb hg, r⟩)⟩
/-- Midway in the reference's head. -/
structure Hm (w wk : World) (bx : Obj) (v : Value) (L : List Int) : Prop where
  below : Below w.heap.size w wk
  box : wk.heap[w.heap.size]? = some bx
  own : wk.ownsRow (w.heap.size + 1) 5 1 v L.length (L.map (Value.int .u8))
theorem Hm.step {w wk w' : World} {bx : Obj} {v v' : Value} {L L' : List Int} (h : Hm w wk bx v L) (ho : w'.ownsRow (w.heap.size + 1) 5 1 v' L'.length (L'.map (Value.int .u8))) (hU : Upd (fun j => v.ownBlock = some j) wk w') : Hm w w' bx v' L' := by
  refine ⟨h.below.trans (hU.below h.below.size (fun k hk e => by have := (own_lt h.own e).2; omega)), ?_, ho⟩
  exact (hU.block _ (lt_of_block h.box) (fun e => by have := (own_lt h.own e).2; omega)).trans h.box

set_option maxHeartbeats 1000000 in
theorem refHeadB_any (k : Int) (q n s : Nat) (hk0 : 0 ≤ k) (hk1 : k < 256) (hn : n < 4294967296) (hs : s < 4294967296) (w : World) :
    Calls Try.prog 18 #[headV k q n s] w fun e w' => ∃ v', e = .returned v' ∧ w'.ownsRow w.heap.size 5 1 v' 24 ((headL k q n s).map (Value.int .u8)) ∧ Below w.heap.size w w' := by
  obtain ⟨i0, hi, hz0, hz1, hz2⟩ := info_parts Try.info5
  obtain ⟨kk, rfl⟩ : ∃ kk : Nat, k = (kk : Int) := ⟨k.toNat, by omega⟩
  have ek : (kk : Int) % 18446744073709551616 = kk := by omega
  have en : (n : Int) % 18446744073709551616 = n := by omega
  have hbk : bigL kk 1 = [(kk : Int)] := by simp [bigL]; omega
  have hbase : w.heap.size ≤ w.heap.size + 1 := by omega
  unfold headV
  have hB0 := heap_alloc_new w (.cells #[.int .i64 (kk : Int), .int .u64 (q : Int), .int .i64 (n : Int), .int .u32 (s : Int)] 54)
  have hconv := Lib.run_convert_bytes_const (P := Try.prog) (w.alloc (.cells #[.int .i64 (kk : Int), .int .u64 (q : Int), .int .i64 (n : Int), .int .u32 (s : Int)] 54)) 23 5 #[.int .u8 83, .int .u8 80, .int .u8 82] 3 3 Try.underlying23 Try.underlying5
  have hsz1 : (w.alloc (.cells #[.int .i64 (kk : Int), .int .u64 (q : Int), .int .i64 (n : Int), .int .u32 (s : Int)] 54)).heap.size = w.heap.size + 1 := by simp
  rw [hsz1] at hconv
  go_enter Try.func18, Try.ntmps18
  go_wp2_with (go_at_call 25; fail)
  have BF := refBig_full ⟨w.heap.size + 1, 0, none⟩ [83, 80, 82] kk ((w.alloc (.cells #[.int .i64 (kk : Int), .int .u64 (q : Int), .int .i64 (n : Int), .int .u32 (s : Int)] 54)).alloc (.cells #[.int .u8 83, .int .u8 80, .int .u8 82] 5 (3, 4))) (fun j u hj => by
    have hnb := heap_alloc_new (w.alloc (.cells #[.int .i64 (kk : Int), .int .u64 (q : Int), .int .i64 (n : Int), .int .u32 (s : Int)] 54)) (.cells #[.int .u8 83, .int .u8 80, .int .u8 82] 5 (3, 4))
    rw [hsz1] at hnb
    rw [Addr.add_lit, Nat.zero_add, cell_of_row _ _ j _ _ _ hnb]
    simpa using hj) (by simp)
  refine BF.mono ?_
  rintro e w3 ⟨v3, rfl, o3, b3⟩
  have hsz2 : ((w.alloc (.cells #[.int .i64 (kk : Int), .int .u64 (q : Int), .int .i64 (n : Int), .int .u32 (s : Int)] 54)).alloc (.cells #[.int .u8 83, .int .u8 80, .int .u8 82] 5 (3, 4))).heap.size = w.heap.size + 2 := by simp
  have H3 : Hm w w3 (.cells #[.int .i64 (kk : Int), .int .u64 (q : Int), .int .i64 (n : Int), .int .u32 (s : Int)] 54 (0, 0)) v3 ([83, 80, 82] ++ [(kk : Int)]) := by
    rw [hbk] at o3
    refine ⟨(((Below.refl _ _).alloc (Nat.le_refl _) _).alloc (by simp) _).trans (b3.mono (by rw [hsz2]; omega)), ?_, own_base o3 (by rw [hsz2]; omega)⟩
    refine (b3.block _ (by rw [hsz2]; omega)).trans ?_
    rw [Below.heap_alloc _ _ _ (by simp)]
    exact hB0
  obtain ⟨ao3, l3, c3, rfl⟩ := row_shape o3
  clear o3 b3 BF hconv hB0 hsz1 hsz2
  have cq := cell_of_row _ _ 1 _ _ _ H3.box
  simp only [List.getElem?_toArray, List.getElem?_cons_succ, List.getElem?_cons_zero] at cq
  go_wp2_with (first
    | (go_at_call 25; refine (refBig_any (w.heap.size + 1) _ _ q 8 (by omega) _ H3.own (by have := lt_of_block H3.box; omega) (by simp)).mono ?_; rintro e w4 ⟨v4, rfl, o4, u4, m4⟩; have H4 := H3.step o4 u4; obtain ⟨ao4, l4, c4, rfl⟩ := row_shape o4; have cn := cell_of_row _ _ 2 _ _ _ H4.box; simp only [List.getElem?_toArray, List.getElem?_cons_succ, List.getElem?_cons_zero] at cn; clear o4 u4 m4 H3 cq)
    | (go_at_call 25; refine (refBig_any (w.heap.size + 1) _ _ n 4 (by omega) _ H4.own (by have := lt_of_block H4.box; omega) (by simp [bigL_len])).mono ?_; rintro e w5 ⟨v5, rfl, o5, u5, m5⟩; have H5 := H4.step o5 u5; obtain ⟨ao5, l5, c5, rfl⟩ := row_shape o5; have cs := cell_of_row _ _ 3 _ _ _ H5.box; simp only [List.getElem?_toArray, List.getElem?_cons_succ, List.getElem?_cons_zero] at cs; clear o5 u5 m5 H4 cn)
    | (go_at_call 26; refine (refSmall_any (w.heap.size + 1) _ _ s hs _ H5.own (by have := lt_of_block H5.box; omega) (by simp [bigL_len])).mono ?_; rintro e w6 ⟨v6, rfl, o6, u6, m6⟩; have H6 := H5.step o6 u6; obtain ⟨ao6, l6, c6, rfl⟩ := row_shape o6; clear o6 u6 m6 H5 cs))
  have hA : [83, 80, 82] ++ [(kk : Int)] ++ bigL q 8 ++ bigL n 4 ++ leL s = headA kk q n s := rfl
  have hAb := headA_bytes kk q n s (by omega)
  have hAl := headA_len kk q n s
  rw [hA] at H6
  have HHL : Hid (headL kk q n s = headA kk q n s ++ leL (moreB 0#32 (headA kk q n s)).toNat) := rfl
  generalize headA kk q n s = HA at H6 hAb hAl HHL
  have RS := refSum_any ao6 l6 c6 HA w6 (Holds.ofRow H6.own) hAb (by rw [(own_cap H6.own).1]; omega)
  obtain ⟨S, hS⟩ : ∃ S, (moreB 0#32 HA).toNat = S := ⟨_, rfl⟩
  have hSl : S < 4294967296 := by rw [← hS]; exact (moreB 0#32 HA).isLt
  rw [hS] at RS HHL
  clear hS hA
  go_wp2_with (first
    | (go_at_call 19; refine RS.mono ?_; rintro e w' ⟨rfl, hw⟩; obtain rfl := hw.symm)
    | (go_at_call 26; refine (refSmall_any (w.heap.size + 1) _ _ S hSl _ H6.own (by have := lt_of_block H6.box; omega) (by omega)).mono ?_; rintro e w7 ⟨v7, rfl, o7, u7, m7⟩; have H7 := H6.step o7 u7; obtain ⟨ao7, l7, c7, rfl⟩ := row_shape o7; clear o7 u7 m7 H6))
  go_ret
  have hfin := own_base H7.own (by omega : w.heap.size ≤ w.heap.size + 1)
  rw [← HHL.out] at hfin
  rw [headL_len] at hfin
  exact ⟨_, rfl, hfin, H7.below⟩
end Go.Proofs.Ytkfefebjciolcaa
