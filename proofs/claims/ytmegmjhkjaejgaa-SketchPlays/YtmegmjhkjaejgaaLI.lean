/-
  Layer 13 (sketch): SketchPlays' walk (written by gen_li.py).
-/
import Derived.Test.YtmegmjhkjaejgaaLH
import Derived.Deep.MidRow
namespace Go.Proofs.Ytmegmjhkjaejgaa.sk.pl
open Go Go.RowKit Go.Proofs.Ytmegmjhkjaejgaa.sk
set_option maxRecDepth 100000

structure OpD where
  k : Int
  I : Int
  aa : Option Addr
  na : Nat
  pa : Nat
  la : List (Int × Int)
  ba : Option Addr
  nb : Nat
  pb : Nat
  lb : List (Int × Int)
  V : Nat
  N : Nat
def OpD.L (o : OpD) : List Value := opL o.k o.I (.slice o.aa o.na o.pa) (.slice o.ba o.nb o.pb) o.V o.N
/-- What a step's lists and numbers may be. -/
structure OpOk (w : World) (o : OpD) : Prop where
  a : InAt w o.aa o.na o.la
  b : InAt w o.ba o.nb o.lb
  v : o.V < 18446744073709551616
  n : o.N < 18446744073709551616
  za : o.na ≤ 8796093021952
  zb : o.nb ≤ 8796093021952
theorem OpOk.below {w w' : World} {o : OpD} (h : OpOk w o) (hb : Below w.heap.size w w') : OpOk w' o := ⟨h.a.below hb, h.b.below hb, h.v, h.n, h.za, h.zb⟩
/-- A script lies here. -/
structure OpsAt (w : World) (ad : Option Addr) (n : Nat) (l : List OpD) : Prop where
  len : l.length = n
  lies : 0 < n → ∃ b off, ad = some ⟨b, off, none⟩ ∧ b < w.heap.size ∧ ∀ i (_ : i < l.length), w.rangeAt b (off + i * 6) l[i].L
  ok : ∀ o ∈ l, OpOk w o
  cap : n ≤ 9000000000000000000
theorem range_low {w w' : World} {b o : Nat} {cs : List Value} (h : w.rangeAt b o cs) (hlt : b < w.heap.size) (hb : Below w.heap.size w w') : w'.rangeAt b o cs := fun j v hv => (hb.cell (p := ⟨b, o + j, none⟩) hlt).trans (h j v hv)
theorem range_blk {w : World} {g : Nat} {l : List Value} {t : TypeId} (h : w.heap[g]? = some (.cells l.toArray t (0, 0))) : w.rangeAt g 0 l := fun j v hv => by rw [Nat.zero_add]; exact blk_cell h j (by rw [List.getElem?_toArray]; exact hv)
/-- What a round holds. -/
structure RS (w W : World) (gb : Nat) (bv wv : Value) (vs us : List Value) (Ks : List (List (Int × Int))) (go : Nat) (o : OpD) (ga ca g2 cb : Nat) (LA LB : List (Int × Int)) (m : Nat) : Prop where
  low : Below w.heap.size w W
  book : BookAt w.heap.size W gb bv wv vs us Ks
  few : Ks.length ≤ m
  small : ∀ K ∈ Ks, K.length ≤ 1920 ∧ Bin K
  blk : W.heap[go]? = some (.cells o.L.toArray 31 (0, 0))
  ge : w.heap.size ≤ go
  la : LentAt w.heap.size W ga o.na ca LA
  lb : LentAt w.heap.size W g2 o.nb cb LB
  fa : Free ga vs us
  fb : Free g2 vs us
  ne : ga ≠ g2
theorem LentAt.type {base : Nat} {w : World} {g n c : Nat} {l : List (Int × Int)} (h : LentAt base w g n c l) : ∃ cs, w.heap[g]? = some (.cells cs 46 (0, 0)) := own_type h.own (by rfl)
section
variable {w W W' : World} {gb : Nat} {bv wv : Value} {vs us : List Value} {Ks : List (List (Int × Int))} {go : Nat} {o : OpD} {ga ca g2 cb : Nat} {LA LB : List (Int × Int)} {m : Nat} {e : Ending}
theorem RS.below (h : RS w W gb bv wv vs us Ks go o ga ca g2 cb LA LB m) (hb : Below W.heap.size W W') : RS w W' gb bv wv vs us Ks go o ga ca g2 cb LA LB m :=
  ⟨h.low.trans (hb.mono h.low.size), h.book.below hb, h.few, h.small, (hb.block go (lt_of_block h.blk)).trans h.blk, h.ge, h.la.below hb, h.lb.below hb, h.fa, h.fb, h.ne⟩
theorem RS.asked (h : RS w W gb bv wv vs us Ks go o ga ca g2 cb LA LB m) (k : AskP w.heap.size gb bv wv vs us Ks W e W') : e = .returned (.bool true) ∧ ∃ bv' wv' vs' us' Ks', RS w W' gb bv' wv' vs' us' Ks' go o ga ca g2 cb LA LB (m + 1) := by
  obtain ⟨h0, bv', wv', vs', us', Ks', hB, h2, h3, h4, h5⟩ := k
  obtain ⟨ta, hta⟩ := h.la.type
  obtain ⟨tb, htb⟩ := h.lb.type
  have key : ∀ g ob, W.heap[g]? = some ob → (∀ cs, ob ≠ .cells cs 27 (0, 0)) → (∀ cs, ob ≠ .cells cs 28 (0, 0)) → ¬ (g = gb ∨ bv.ownBlock = some g ∨ wv.ownBlock = some g) := fun g ob hg n1 n2 hx => by
    rcases hx with rfl | hx | hx
    · have := h.book.block
      rw [hg] at this
      exact n1 _ (Option.some.inj this)
    · exact own_not h.book.lown hg n2 hx
    · exact own_not h.book.wown hg n2 hx
  refine ⟨h0, bv', wv', vs', us', Ks', h.low.trans (h4.below h.low.size (fun k hk hx => ?_)), hB.out, by have := h.few; omega, h3, (h4.block go (lt_of_block h.blk) (key go _ h.blk (fun cs hc => by simp at hc) (fun cs hc => by simp at hc))).trans h.blk, h.ge, h.la.upd h4 (key ga _ hta (fun cs hc => by simp at hc) (fun cs hc => by simp at hc)), h.lb.upd h4 (key g2 _ htb (fun cs hc => by simp at hc) (fun cs hc => by simp at hc)), h5 ga h.la.low.2 h.fa, h5 g2 h.lb.low.2 h.fb, h.ne⟩
  rcases hx with rfl | hx | hx
  · have := h.book.le
    omega
  · have := (own_lt h.book.lown hx).2
    omega
  · have := (own_lt h.book.wown hx).2
    omega
theorem RS.keptA (h : RS w W gb bv wv vs us Ks go o ga ca g2 cb LA LB m) (k : KeptP w.heap.size ga o.na ca LA W e W') : e = .returned (.bool true) ∧ RS w W' gb bv wv vs us Ks go o ga ca g2 cb (LA.map ovB) LB m := by
  obtain ⟨h0, h1, u⟩ := k
  obtain ⟨ta, hta⟩ := h.la.type
  refine ⟨h0, h.low.trans (u.below h.low.size (fun k hk hx => by have := h.la.low.1; omega)), h.book.upd u (fun k hk _ => by subst hk; exact ⟨ta, hta, h.fa.1, h.fa.2⟩), h.few, h.small, (u.block go (lt_of_block h.blk) (fun hx => ?_)).trans h.blk, h.ge, h1.out, h.lb.upd u (fun hx => h.ne hx.symm), h.fa, h.fb, h.ne⟩
  have := h.blk
  rw [hx, hta] at this
  simp at this
theorem RS.keptB (h : RS w W gb bv wv vs us Ks go o ga ca g2 cb LA LB m) (k : KeptP w.heap.size g2 o.nb cb LB W e W') : e = .returned (.bool true) ∧ RS w W' gb bv wv vs us Ks go o ga ca g2 cb LA (LB.map ovB) m := by
  obtain ⟨h0, h1, u⟩ := k
  obtain ⟨ta, hta⟩ := h.lb.type
  refine ⟨h0, h.low.trans (u.below h.low.size (fun k hk hx => by have := h.lb.low.1; omega)), h.book.upd u (fun k hk _ => by subst hk; exact ⟨ta, hta, h.fb.1, h.fb.2⟩), h.few, h.small, (u.block go (lt_of_block h.blk) (fun hx => ?_)).trans h.blk, h.ge, h.la.upd u (fun hx => h.ne hx), h1.out, h.fa, h.fb, h.ne⟩
  have := h.blk
  rw [hx, hta] at this
  simp at this
end
theorem book_new (base : Nat) (w : World) (hb : base ≤ w.heap.size) : BookAt base (w.alloc (.cells #[.slice none 0 0, .slice none 0 0] 27)) w.heap.size (.slice none 0 0) (.slice none 0 0) [] [] [] :=
  ⟨heap_alloc_new w _, hb, World.ownsRow_nil _ _ _ _, World.ownsRow_nil _ _ _ _, fun k h => by simp [Value.ownBlock] at h, rfl, rfl, fun j v K h => by simp at h, fun j v K h => by simp at h, fun i j u v h => by simp at h⟩
theorem free_new {base g : Nat} {w : World} {gb : Nat} {bv wv : Value} {vs us : List Value} {Ks : List (List (Int × Int))} (B : BookAt base w gb bv wv vs us Ks) (hg : w.heap.size ≤ g) : Free g vs us := by
  refine ⟨fun j v hv hk => ?_, fun j v hv hk => ?_⟩
  · have hjl : j < Ks.length := by rw [← B.vlen]; exact (List.getElem?_eq_some_iff.1 hv).1
    have := (own_lt (B.vrow j v Ks[j] hv (List.getElem?_eq_getElem hjl)) hk).1
    omega
  · have hjl : j < Ks.length := by rw [← B.ulen]; exact (List.getElem?_eq_some_iff.1 hv).1
    have := (own_lt (B.urow j v Ks[j] hv (List.getElem?_eq_getElem hjl)) hk).1
    omega
theorem LentAt.weak {base base' : Nat} {w : World} {g n c : Nat} {l : List (Int × Int)} (h : LentAt base w g n c l) (hb : base' ≤ base) : LentAt base' w g n c l := ⟨own_base h.own hb, h.len⟩
theorem opq {W : World} {g : Nat} {l : List Value} {t : TypeId} (h : W.heap[g]? = some (.cells l.toArray t (0, 0))) (j : Nat) (v : Value) (hv : l[j]? = some v) : W.cell? ⟨g, j, none⟩ = some v := blk_cell h j (by rw [List.getElem?_toArray]; exact hv)
theorem rs_new {w wr w2 w3 : World} {gb : Nat} {bv wv : Value} {vs us : List Value} {Ks : List (List (Int × Int))} {o : OpD} {ga ca g2 cb : Nat} {LA LB : List (Int × Int)} {m : Nat} (hl : Below w.heap.size w wr) (B : BookAt w.heap.size wr gb bv wv vs us Ks) (hf : Ks.length ≤ m) (hs : ∀ K ∈ Ks, K.length ≤ 1920 ∧ Bin K)
    (b2 : Below (wr.alloc (.cells o.L.toArray 31)).heap.size (wr.alloc (.cells o.L.toArray 31)) w2) (hla : LentAt (wr.alloc (.cells o.L.toArray 31)).heap.size w2 ga o.na ca LA) (b3 : Below w2.heap.size w2 w3) (hlb : LentAt w2.heap.size w3 g2 o.nb cb LB) : RS w w3 gb bv wv vs us Ks wr.heap.size o ga ca g2 cb LA LB m := by
  have b1 := al_below wr (.cells o.L.toArray 31)
  have b12 := b1.trans (b2.mono b1.size)
  have b13 := b12.trans (b3.mono b12.size)
  have k1 := hl.size
  have k2 := b1.size
  have k3 := b12.size
  have hg1 := hla.low
  have hg2 := hlb.low
  have blk0 : (wr.alloc (.cells o.L.toArray 31)).heap[wr.heap.size]? = some (.cells o.L.toArray 31 (0, 0)) := heap_alloc_new wr _
  have blk2 := (b2.block _ (lt_of_block blk0)).trans blk0
  have blk3 := (b3.block _ (lt_of_block blk2)).trans blk2
  exact ⟨hl.trans (b13.mono k1), B.below b13, hf, hs, blk3, k1, (hla.below b3).weak (by omega), hlb.weak (by omega), free_new B (by omega), free_new B (by omega), by omega⟩
theorem ask_rs {w W : World} {gb : Nat} {bv wv : Value} {vs us : List Value} {Ks : List (List (Int × Int))} {go : Nat} {k I : Int} {aa : Option Addr} {na pa : Nat} {la : List (Int × Int)} {ba : Option Addr} {nb pb : Nat} {lb : List (Int × Int)} {V N : Nat} {ga ca g2 cb m : Nat} (h : RS w W gb bv wv vs us Ks go ⟨k, I, aa, na, pa, la, ba, nb, pb, lb, V, N⟩ ga ca g2 cb la lb m) (ok : OpOk w ⟨k, I, aa, na, pa, la, ba, nb, pb, lb, V, N⟩) (hn : Ks.length ≤ 7000000000) :
    Calls Try.prog 6 #[.pointer (some ⟨gb, 0, none⟩), .agg #[.int .i64 k, .int .i64 I, .slice aa na pa, .slice ba nb pb, .int .u64 (V : Int), .int .u64 (N : Int)], .slice (some ⟨ga, 0, none⟩) na ca, .slice (some ⟨g2, 0, none⟩) nb cb, .slice aa na pa, .slice ba nb pb] W (AskP w.heap.size gb bv wv vs us Ks W) :=
  asks_any w.heap.size gb bv wv vs us Ks k I (.slice aa na pa) (.slice ba nb pb) V N (some ⟨ga, 0, none⟩) (some ⟨g2, 0, none⟩) aa ba na nb na nb ca cb pa pb la lb W h.book h.low.size h.small hn (h.la.inn ok.a.bin) (h.lb.inn ok.b.bin) (ok.a.below h.low) (ok.b.below h.low) ok.v ok.n
set_option maxHeartbeats 4000000 in
theorem plays_any (ad : Option Addr) (n c : Nat) (l : List OpD) (w : World) (hA : OpsAt w ad n l) : Calls Try.prog 3 #[.slice ad n c] w fun e w' => e = .returned (.bool true) ∧ Below w.heap.size w w' := by
  have AW := awake_any w
  have HA : Hid _ := hA
  have hnc : (n : Int) ≤ 9000000000000000000 := by have := hA.cap; omega
  have HLN : Hid (l.length = n) := hA.len
  clear hA
  go_enter Try.func3, Try.ntmps3
  go_wp2_with (go_at_call 4; (with_reducible refine AW.mono ?_); clear AW; rintro e w1 ⟨rfl, b1⟩; have HB1 : Hid (Below w.heap.size w w1) := b1; clear b1)
  obtain ⟨gb, hgb⟩ : ∃ z, w1.heap.size = z := ⟨_, rfl⟩
  have HBK : Hid (BookAt w.heap.size (w1.alloc (.cells #[.slice none 0 0, .slice none 0 0] 27)) gb (.slice none 0 0) (.slice none 0 0) [] [] []) := by rw [← hgb]; exact book_new w.heap.size w1 HB1.out.size
  have HB2 : Hid (Below w.heap.size w (w1.alloc (.cells #[.slice none 0 0, .slice none 0 0] 27))) := HB1.out.trans ((al_below w1 _).mono HB1.out.size)
  rw [hgb]
  clear hgb HB1
  go_loopw [2, 5, 6] (fun z a b wr => ∃ (i s : Nat) (bv wv : Value) (vs us : List Value) (Ks : List (List (Int × Int))), z = .bool false ∧ a = .int .i64 s ∧ b = .int .i64 i ∧ i ≤ n ∧ i ≤ s ∧ s ≤ 2147483647 ∧ Hid (BookAt w.heap.size wr gb bv wv vs us Ks ∧ Ks.length ≤ 3 * i ∧ ∀ K ∈ Ks, K.length ≤ 1920 ∧ Bin K) ∧ Hid (Below w.heap.size w wr)) (fun _ _ b _ => n - (intOf b).toNat)
  case atStart => exact ⟨0, 0, _, _, _, _, _, rfl, rfl, rfl, Nat.zero_le _, Nat.le_refl _, by omega, ⟨HBK.out, by simp, fun K hK => by cases hK⟩, HB2⟩
  case round =>
    obtain ⟨i, s, bv, wv, vs, us, Ks, rfl, rfl, rfl, hin, his, hsm, HBK, HLW⟩ := hrel
    have EN : Hid (∀ W, Below wr.heap.size wr W → Calls Try.prog 9 #[.pointer (some ⟨gb, 0, none⟩)] W fun e w' => e = .returned (.bool true) ∧ Below w.heap.size W w') := fun W b => ends_any w.heap.size gb bv wv vs us Ks W (HBK.out.1.below b) (Nat.le_trans HLW.out.size b.size) (by have := HBK.out.2.1; omega) HBK.out.2.2
    by_cases hlt : i < n
    · obtain ⟨b, off, rfl, hbl, hrg⟩ := HA.out.lies (by omega)
      have hil : i < l.length := by rw [HLN.out]; exact hlt
      have hok := HA.out.ok l[i] (List.getElem_mem hil)
      have RG : Hid (wr.rangeAt b (off + i * 6) l[i].L) := range_low (hrg i hil) hbl HLW.out
      obtain ⟨od, hod⟩ : ∃ z, l[i] = z := ⟨_, rfl⟩
      rw [hod] at hok RG
      obtain ⟨k, I, aa, na, pa, la, ba, nb, pb, lb, V, N⟩ := od
      have HOK : Hid (OpOk w ⟨k, I, aa, na, pa, la, ba, nb, pb, lb, V, N⟩) := hok
      have hza := hok.za
      have hzb := hok.zb
      simp only at hza hzb
      unfold OpD.L opL at RG
      simp only at RG
      have hlt' : (i : Int) < (n : Int) := by omega
      clear hok hrg hil hod hbl
      by_cases hbrk : s + 1 + na + nb > 2147483647
      · have hw1 : IntKind.i64.wrap ((s : Int) + 1) = ((s + 1 : Nat) : Int) := by rw [IntKind.wrap_i64]; omega
        have hw2 : IntKind.i64.wrap (((s + 1 : Nat) : Int) + (na : Int)) = ((s + 1 + na : Nat) : Int) := by rw [IntKind.wrap_i64]; omega
        have hw3 : IntKind.i64.wrap (((s + 1 + na : Nat) : Int) + (nb : Int)) = ((s + 1 + na + nb : Nat) : Int) := by rw [IntKind.wrap_i64]; omega
        have hgt : ((s + 1 + na + nb : Nat) : Int) > 2147483647 := by omega
        have E1 := EN.out (wr.alloc (.cells [.int .i64 k, .int .i64 I, .slice aa na pa, .slice ba nb pb, .int .u64 (V : Int), .int .u64 (N : Int)].toArray 31)) (al_below wr _)
        have HB3 : Hid (Below w.heap.size w (wr.alloc (.cells [.int .i64 k, .int .i64 I, .slice aa na pa, .slice ba nb pb, .int .u64 (V : Int), .int .u64 (N : Int)].toArray 31))) := HLW.out.trans ((al_below wr _).mono HLW.out.size)
        clear EN HBK
        go_wp2_with (first
          | (refine wpList_load_mid rfl 31 _ rfl b (off + i * 6) rfl [.int .i64 k, .int .i64 I, .slice aa na pa, .slice ba nb pb, .int .u64 (V : Int), .int .u64 (N : Int)] _ RG.out Try.underlying31 rfl (by kernel_rfl) ?_)
          | (go_at_call 9; (with_reducible refine E1.mono ?_); clear E1; rintro e w9 ⟨rfl, b9⟩))
        go_ret
        exact ⟨rfl, HB3.out.trans b9⟩
      · have hna : na ≤ 2147483647 := by omega
        have hnb : nb ≤ 2147483647 := by omega
        have hw1 : IntKind.i64.wrap ((s : Int) + 1) = ((s + 1 : Nat) : Int) := by rw [IntKind.wrap_i64]; omega
        have hw2 : IntKind.i64.wrap (((s + 1 : Nat) : Int) + (na : Int)) = ((s + 1 + na : Nat) : Int) := by rw [IntKind.wrap_i64]; omega
        have hw3 : IntKind.i64.wrap (((s + 1 + na : Nat) : Int) + (nb : Int)) = ((s + 1 + na + nb : Nat) : Int) := by rw [IntKind.wrap_i64]; omega
        have hle : ¬ ((s + 1 + na + nb : Nat) : Int) > 2147483647 := by omega
        have LE1 : Hid (∀ W, Below w.heap.size w W → Calls Try.prog 5 #[.slice aa na pa] W (LentP la na W)) := fun W h => lent_any aa na pa la W (HOK.out.a.below h) hna
        have LE2 : Hid (∀ W, Below w.heap.size w W → Calls Try.prog 5 #[.slice ba nb pb] W (LentP lb nb W)) := fun W h => lent_any ba nb pb lb W (HOK.out.b.below h) hnb
        have OV1 : Hid (∀ W, Below w.heap.size w W → Calls Try.prog 8 #[.slice aa na pa] W (OverP la na W)) := fun W h => over_any aa na pa la W (HOK.out.a.below h) hna
        have OV2 : Hid (∀ W, Below w.heap.size w W → Calls Try.prog 8 #[.slice ba nb pb] W (OverP lb nb W)) := fun W h => over_any ba nb pb lb W (HOK.out.b.below h) hnb
        have HBA : Hid (Below w.heap.size w (wr.alloc (.cells [.int .i64 k, .int .i64 I, .slice aa na pa, .slice ba nb pb, .int .u64 (V : Int), .int .u64 (N : Int)].toArray 31))) := HLW.out.trans ((al_below wr _).mono HLW.out.size)
        have hKl : Ks.length ≤ 3 * i := HBK.out.2.1
        clear EN
        go_wp2_with (first
          | (refine wpList_load_mid rfl 31 _ rfl b (off + i * 6) rfl [.int .i64 k, .int .i64 I, .slice aa na pa, .slice ba nb pb, .int .u64 (V : Int), .int .u64 (N : Int)] _ RG.out Try.underlying31 rfl (by kernel_rfl) ?_)
          | (go_at_call 5; (with_reducible refine (LE1.out _ HBA.out).mono ?_); clear LE1; rintro e w2 ⟨ga, ca, rfl, HLA, b2⟩; have HB2 : Hid (Below w.heap.size w w2) := HBA.out.trans (b2.mono HBA.out.size); have HBb : Hid _ := b2; have q3 : w2.cell? ⟨wr.heap.size, 3, none⟩ = some (.slice ba nb pb) := opc (l := [.int .i64 k, .int .i64 I, .slice aa na pa, .slice ba nb pb, .int .u64 (V : Int), .int .u64 (N : Int)]) b2 3 _ rfl; clear b2)
          | (go_at_call 5; (with_reducible refine (LE2.out _ HB2.out).mono ?_); clear LE2 q3; rintro e w3 ⟨g2, cb, rfl, HLB, b3⟩; have F : Hid (RS w w3 gb bv wv vs us Ks wr.heap.size ⟨k, I, aa, na, pa, la, ba, nb, pb, lb, V, N⟩ ga ca g2 cb la lb (3 * i)) := rs_new HLW.out HBK.out.1 HBK.out.2.1 HBK.out.2.2 HBb.out HLA.out b3 HLB.out; clear HLA HLB HBb HB2 HBA b3 HBK; have q2 : w3.cell? ⟨wr.heap.size, 2, none⟩ = some (.slice aa na pa) := opq F.out.blk 2 _ rfl; have q3 : w3.cell? ⟨wr.heap.size, 3, none⟩ = some (.slice ba nb pb) := opq F.out.blk 3 _ rfl; have AK1 := ask_rs F.out HOK.out (by have := F.out.few; omega))
          | (refine wpList_load_mid rfl 31 _ rfl wr.heap.size 0 rfl [.int .i64 k, .int .i64 I, .slice aa na pa, .slice ba nb pb, .int .u64 (V : Int), .int .u64 (N : Int)] _ (range_blk F.out.blk) Try.underlying31 rfl (by kernel_rfl) ?_)
          | (go_at_call 6; (with_reducible refine AK1.mono ?_); clear AK1 q2 q3; intro e w4 h4; obtain ⟨rfl, bv4, wv4, vs4, us4, Ks4, f4⟩ := RS.asked F.out h4; clear F h4; have F : Hid _ := f4; clear f4; have q2 : w4.cell? ⟨wr.heap.size, 2, none⟩ = some (.slice aa na pa) := opq F.out.blk 2 _ rfl; have q3 : w4.cell? ⟨wr.heap.size, 3, none⟩ = some (.slice ba nb pb) := opq F.out.blk 3 _ rfl; have AK2 := ask_rs F.out HOK.out (by have := F.out.few; omega))
          | (go_at_call 6; (with_reducible refine AK2.mono ?_); clear AK2 q2 q3; intro e w5 h5; obtain ⟨rfl, bv5, wv5, vs5, us5, Ks5, f5⟩ := RS.asked F.out h5; clear F h5; have F : Hid _ := f5; clear f5; have q2 : w5.cell? ⟨wr.heap.size, 2, none⟩ = some (.slice aa na pa) := opq F.out.blk 2 _ rfl; have KP1 := kept_any w.heap.size ga na ca pa aa la w5 F.out.la (HOK.out.a.below F.out.low) hna)
          | (go_at_call 7; (with_reducible refine KP1.mono ?_); clear KP1 q2; intro e w6 h6; obtain ⟨rfl, f6⟩ := RS.keptA F.out h6; clear F h6; have F : Hid _ := f6; clear f6; have q3 : w6.cell? ⟨wr.heap.size, 3, none⟩ = some (.slice ba nb pb) := opq F.out.blk 3 _ rfl; have KP2 := kept_any w.heap.size g2 nb cb pb ba lb w6 F.out.lb (HOK.out.b.below F.out.low) hnb)
          | (go_at_call 7; (with_reducible refine KP2.mono ?_); clear KP2 q3; intro e w7 h7; obtain ⟨rfl, f7⟩ := RS.keptB F.out h7; clear F h7; have F : Hid _ := f7; clear f7))
        have hS0 : w7.drew.heap[wr.heap.size]? = some (.cells [.int .i64 k, .int .i64 I, .slice aa na pa, .slice ba nb pb, .int .u64 (V : Int), .int .u64 (N : Int)].toArray 31 (0, 0)) := F.out.blk
        refine wp_region_held (S := fun W => W.heap[wr.heap.size]? = some (.cells [.int .i64 k, .int .i64 I, .slice aa na pa, .slice ba nb pb, .int .u64 (V : Int), .int .u64 (N : Int)].toArray 31 (0, 0))) (by kernel_rfl) ?_
        change wpAnyH _ _ _ _ _ _ _ _ (World.drew _)
        refine takeH (i := 0) (v := .pointer (some ⟨gb, 0, none⟩)) rfl (by kernel_rfl) (by kernel_rfl) (by kernel_rfl) (fun _ _ _ h => h) (Or.inl ⟨by rfl, fun W hW => by go_simp⟩) hS0 ?_
        simp only [Act.put, List.setIfInBounds_toArray, List.set_cons_zero, List.set_cons_succ]
        refine takeH (i := 1) (v := .agg [.int .i64 k, .int .i64 I, .slice aa na pa, .slice ba nb pb, .int .u64 (V : Int), .int .u64 (N : Int)].toArray) rfl (by kernel_rfl) (by kernel_rfl) (by kernel_rfl) (fun _ _ _ h => h) (yieldsIf_load_mid (by rfl) 31 _ rfl wr.heap.size 0 rfl [.int .i64 k, .int .i64 I, .slice aa na pa, .slice ba nb pb, .int .u64 (V : Int), .int .u64 (N : Int)] _ (fun W hW => range_blk hW) Try.underlying31 rfl (by kernel_rfl)) hS0 ?_
        simp only [Act.put, List.setIfInBounds_toArray, List.set_cons_zero, List.set_cons_succ]
        refine takeH (i := 2) (v := .slice (some ⟨ga, 0, none⟩) na ca) rfl (by kernel_rfl) (by kernel_rfl) (by kernel_rfl) (fun _ _ _ h => h) (Or.inl ⟨by rfl, fun W hW => by go_simp⟩) hS0 ?_
        simp only [Act.put, List.setIfInBounds_toArray, List.set_cons_zero, List.set_cons_succ]
        refine takeH (i := 3) (v := .slice (some ⟨g2, 0, none⟩) nb cb) rfl (by kernel_rfl) (by kernel_rfl) (by kernel_rfl) (fun _ _ _ h => h) (Or.inl ⟨by rfl, fun W hW => by go_simp⟩) hS0 ?_
        simp only [Act.put, List.setIfInBounds_toArray, List.set_cons_zero, List.set_cons_succ]
        refine takeH (i := 4) (v := .pointer (some ⟨wr.heap.size, 2, none⟩)) rfl (by kernel_rfl) (by kernel_rfl) (by kernel_rfl) (fun _ _ _ h => h) (Or.inl ⟨by rfl, fun W hW => by go_simp⟩) hS0 ?_
        simp only [Act.put, List.setIfInBounds_toArray, List.set_cons_zero, List.set_cons_succ]
        refine takeH (i := 5) (v := .slice aa na pa) rfl (by kernel_rfl) (by kernel_rfl) (by kernel_rfl) (fun _ _ _ h => h) (Or.inl ⟨by rfl, fun W hW => by have hq := range_blk hW 2 (.slice aa na pa) rfl; rw [Nat.zero_add] at hq; go_simp⟩) hS0 ?_
        simp only [Act.put, List.setIfInBounds_toArray, List.set_cons_zero, List.set_cons_succ]
        refine takeH (i := 7) (v := .pointer (some ⟨wr.heap.size, 3, none⟩)) rfl (by kernel_rfl) (by kernel_rfl) (by kernel_rfl) (fun _ _ _ h => h) (Or.inl ⟨by rfl, fun W hW => by go_simp⟩) hS0 ?_
        simp only [Act.put, List.setIfInBounds_toArray, List.set_cons_zero, List.set_cons_succ]
        refine takeH (i := 8) (v := .slice ba nb pb) rfl (by kernel_rfl) (by kernel_rfl) (by kernel_rfl) (fun _ _ _ h => h) (Or.inl ⟨by rfl, fun W hW => by have hq := range_blk hW 3 (.slice ba nb pb) rfl; rw [Nat.zero_add] at hq; go_simp⟩) hS0 ?_
        simp only [Act.put, List.setIfInBounds_toArray, List.set_cons_zero, List.set_cons_succ]
        refine onlyH (i := 6) rfl (by kernel_rfl) (fun K hK => ?_)
        go_simp
        go_at_call 8
        (with_reducible refine (OV1.out _ (F.out.low.drew)).mono ?_)
        rintro e v1 ⟨g3, c3, rfl, HL3, b1⟩
        have F8 : Hid _ := RS.below F.out ((Below.refl w7.heap.size w7).drew.trans b1)
        clear F
        refine hK _ _ ⟨F8.out.blk, ?_⟩
        clear hK K b1
        refine onlyH (i := 9) rfl (by kernel_rfl) (fun K hK => ?_)
        go_simp
        go_at_call 8
        (with_reducible refine (OV2.out _ F8.out.low).mono ?_)
        rintro e v2 ⟨g4, c4, rfl, HL4, b2⟩
        have F9 : Hid _ := RS.below F8.out b2
        have HL3b := LentAt.below HL3.out b2
        have AK3 := asks_any w.heap.size gb _ _ _ _ _ k I (.slice aa na pa) (.slice ba nb pb) V N (some ⟨ga, 0, none⟩) (some ⟨g2, 0, none⟩) (some ⟨g3, 0, none⟩) (some ⟨g4, 0, none⟩) na nb na nb ca cb c3 c4 (la.map ovB) (lb.map ovB) v2 F9.out.book F9.out.low.size F9.out.small (by have := F9.out.few; omega) (F9.out.la.inn (bin_ov HOK.out.a.bin)) (F9.out.lb.inn (bin_ov HOK.out.b.bin)) (HL3b.inn (bin_ov HOK.out.a.bin)) (HL4.out.inn (bin_ov HOK.out.b.bin)) HOK.out.v HOK.out.n
        clear F8 HL3 HL4 HL3b
        refine hK _ _ ⟨F9.out.blk, ?_⟩
        clear hK K b2
        simp only [opL] at AK3
        refine onlyH (i := 10) rfl (by kernel_rfl) (fun K hK => ?_)
        go_simp
        go_at_call 6
        (with_reducible refine AK3.mono ?_)
        intro e v3 h3
        obtain ⟨rfl, bv9, wv9, vs9, us9, Ks9, f10⟩ := RS.asked F9.out h3
        have F10 : Hid _ := f10
        clear f10 h3 AK3 F9
        refine hK _ _ ⟨F10.out.blk, ?_⟩
        clear hK K
        refine takeH (i := 11) (v := .bool true) rfl (by kernel_rfl) (by kernel_rfl) (by kernel_rfl) (fun _ _ _ h => h) (Or.inl ⟨by rfl, fun W hW => by go_simp⟩) F10.out.blk ?_
        simp only [Act.put, List.setIfInBounds_toArray, List.set_cons_zero, List.set_cons_succ]
        refine wpAnyH_done (by kernel_rfl) ?_ _
        go_wp2
        go_roundw
        case rel => exact ⟨i + 1, s + 1 + na + nb, _, _, _, _, _, rfl, by go_num, by go_num, by omega, by omega, by omega, ⟨F10.out.book, by have := F10.out.few; omega, F10.out.small⟩, F10.out.low⟩
        case measure => simp [intOf]; omega
    · obtain rfl : n = i := by omega
      have E1 := EN.out wr (Below.refl _ _)
      clear EN HBK
      go_wp2_with (go_at_call 9; (with_reducible refine E1.mono ?_); clear E1; rintro e w9 ⟨rfl, b9⟩)
      go_ret
      exact ⟨rfl, HLW.out.trans b9⟩
end Go.Proofs.Ytmegmjhkjaejgaa.sk.pl
