/-
  Layer 13 (sketch): SketchPlays: asks, kind by kind (written by gen_lg.py).
-/
import Derived.Test.YtmegmjhkjaejgaaLF
namespace Go.Proofs.Ytmegmjhkjaejgaa.sk.pl
open Go Go.RowKit Go.Proofs.Ytmegmjhkjaejgaa.sk
set_option maxRecDepth 100000

theorem BookAt.upd {S : Nat → Prop} {base : Nat} {w w' : World} {gb : Nat} {bv wv : Value} {vs us : List Value} {Ks : List (List (Int × Int))} (B : BookAt base w gb bv wv vs us Ks) (u : Upd S w w') (hS : ∀ k, S k → base ≤ k → (∃ cs, w.heap[k]? = some (.cells cs 46 (0, 0)) ∧ (∀ (j : Nat) v, vs[j]? = some v → v.ownBlock ≠ some k) ∧ (∀ (j : Nat) v, us[j]? = some v → v.ownBlock ≠ some k))) : BookAt base w' gb bv wv vs us Ks := by
  have hgb : ¬ S gb := fun h => by
    obtain ⟨cs, h1, _⟩ := hS gb h B.le
    rw [B.block] at h1
    simp at h1
  have hl : ∀ {v : Value} {n : Nat} {xs : List Value}, w.ownsRow base 28 1 v n xs → ∀ k, v.ownBlock = some k → ¬ S k := fun h k hk hs => by
    obtain ⟨cs, h1, _⟩ := hS k hs (own_lt h hk).2
    exact own_not h h1 (fun cs' e => by simp at e) hk
  refine ⟨(u.block gb (lt_of_block B.block) hgb).trans B.block, B.le, ownsRow_upd B.lown u (hl B.lown), ownsRow_upd B.wown u (hl B.wown), B.ne, B.vlen, B.ulen, fun j v K h1 h2 => ?_, fun j v K h1 h2 => ?_, B.apart⟩
  · have h := B.vrow j v K h1 h2
    refine ownsRow_upd h u (fun k hk hs => ?_)
    obtain ⟨cs, _, h3, _⟩ := hS k hs (own_lt h hk).2
    exact h3 j v h1 hk
  · have h := B.urow j v K h1 h2
    refine ownsRow_upd h u (fun k hk hs => ?_)
    obtain ⟨cs, _, _, h3⟩ := hS k hs (own_lt h hk).2
    exact h3 j v h1 hk
theorem BookAt.below {base : Nat} {w w' : World} {gb : Nat} {bv wv : Value} {vs us : List Value} {Ks : List (List (Int × Int))} (B : BookAt base w gb bv wv vs us Ks) (hb : Below w.heap.size w w') : BookAt base w' gb bv wv vs us Ks :=
  B.upd (Upd.ofBelow (S := fun _ => False) hb (fun k hk hk' => by omega)) (fun _ h => h.elim)
def opL (k I : Int) (x2 x3 : Value) (V N : Nat) : List Value := [.int .i64 k, .int .i64 I, x2, x3, .int .u64 (V : Int), .int .u64 (N : Int)]
/-- What a question leaves. -/
def Free (g : Nat) (vs us : List Value) : Prop := (∀ (j : Nat) v, vs[j]? = some v → v.ownBlock ≠ some g) ∧ (∀ (j : Nat) v, us[j]? = some v → v.ownBlock ≠ some g)
def AskP (base gb : Nat) (bv wv : Value) (vs us : List Value) (Ks : List (List (Int × Int))) (w : World) (e : Ending) (w' : World) : Prop := e = .returned (.bool true) ∧ ∃ bv' wv' vs' us' Ks', Hid (BookAt base w' gb bv' wv' vs' us' Ks') ∧ Ks'.length ≤ Ks.length + 1 ∧ (∀ K ∈ Ks', K.length ≤ 1920 ∧ Bin K) ∧ Upd (fun k => k = gb ∨ bv.ownBlock = some k ∨ wv.ownBlock = some k) w w' ∧ ∀ g, g < w.heap.size → Free g vs us → Free g vs' us'
theorem held {base gb : Nat} {bv wv : Value} {vs us : List Value} {Ks : List (List (Int × Int))} {w W1 w2 w3 : World} {a2 a3 : Option Addr} {n2 c2 n3 c3 : Nat} {L : List (Int × Int)} (B : BookAt base w gb bv wv vs us Ks) (hb : base ≤ w.heap.size) (hs : ∀ K ∈ Ks, K.length ≤ 1920 ∧ Bin K) (hn : Ks.length ≤ 7000000000) (hL : L.length ≤ 1920 ∧ Bin L)
    (b1 : Below w.heap.size w W1) (b2 : Below W1.heap.size W1 w2) (hx : OwnBar W1.heap.size w2 (.slice a2 n2 c2) L) (b3 : Below w2.heap.size w2 w3) (hy : OwnBar w2.heap.size w3 (.slice a3 n3 c3) L) :
    Calls Try.prog 20 #[.pointer (some ⟨gb, 0, none⟩), .slice a2 n2 c2, .slice a3 n3 c3] w3 (AskP base gb bv wv vs us Ks w) := by
  have b12 := b1.trans (b2.mono b1.size)
  have b13 := b12.trans (b3.mono b12.size)
  have hx3 : OwnBar W1.heap.size w3 (.slice a2 n2 c2) L := ownsRow_upd hx (Upd.ofBelow (S := fun _ => False) b3 (fun k hk hk' => by omega)) (fun _ _ h => h)
  refine (hold_any base gb bv wv vs us Ks a2 a3 n2 c2 n3 c3 L w3 (B.below b13) (Nat.le_trans hb b13.size) (own_base hx3 (Nat.le_trans hb b1.size)) (own_base hy (Nat.le_trans hb b12.size)) hL hn (fun j v hv k hk => ?_)).mono fun e w4 h => ?_
  · intro hk'
    have hjl : j < Ks.length := by rw [← B.vlen]; exact (List.getElem?_eq_some_iff.1 hv).1
    have h1 := own_lt (B.vrow j v Ks[j] hv (List.getElem?_eq_getElem hjl)) hk'
    have h2 := own_lt hx3 hk
    have h3 := b1.size
    omega
  · obtain ⟨rfl, bv', wv', h1, h2⟩ := h
    refine ⟨rfl, bv', wv', _, _, _, h1, by simp, fun K hK => ?_, (Upd.ofBelow (S := fun k => k = gb ∨ bv.ownBlock = some k ∨ wv.ownBlock = some k) b13 (fun k hk hk' => by omega)).trans h2 (fun _ _ h => h), fun g hg hf => ⟨fun j v hv hk => ?_, fun j v hv hk => ?_⟩⟩
    rcases List.mem_append.1 hK with h | h
    · exact hs K h
    · simp at h
      subst h
      exact hL
    · rcases push_get hv with ⟨_, hv⟩ | ⟨_, rfl⟩
      · exact hf.1 j v hv hk
      · have h8 := own_lt hx3 hk
        have h9 := b1.size
        omega
    · rcases push_get hv with ⟨_, hv⟩ | ⟨_, rfl⟩
      · exact hf.2 j v hv hk
      · have h8 := own_lt hy hk
        have h9 := b12.size
        omega
theorem asked {base gb : Nat} {bv wv : Value} {vs us : List Value} {Ks : List (List (Int × Int))} {w w' : World} (B : BookAt base w gb bv wv vs us Ks) (hs : ∀ K ∈ Ks, K.length ≤ 1920 ∧ Bin K) (b : Below w.heap.size w w') : AskP base gb bv wv vs us Ks w (.returned (.bool true)) w' :=
  ⟨rfl, bv, wv, vs, us, Ks, B.below b, by omega, hs, Upd.ofBelow b (fun k hk hk' => by omega), fun _ _ h => h⟩
theorem opc {w : World} {l : List Value} {t : TypeId} {W : World} (b : Below (w.alloc (.cells l.toArray t)).heap.size (w.alloc (.cells l.toArray t)) W) (j : Nat) (v : Value) (hv : l[j]? = some v) : W.cell? ⟨w.heap.size, j, none⟩ = some v := by
  refine (b.cell (p := ⟨w.heap.size, j, none⟩) (by simp)).trans ?_
  exact blk_cell (heap_alloc_new w _) j (by rw [List.getElem?_toArray]; exact hv)
theorem al_below (w : World) (o : Obj) : Below w.heap.size w (w.alloc o) := (Below.refl _ _).alloc (Nat.le_refl _) _
section
variable (base gb : Nat) (bv wv : Value) (vs us : List Value) (Ks : List (List (Int × Int))) (I : Int) (x2 x3 : Value) (V N : Nat) (aa ba ca da : Option Addr) (na nb nc nd pa pb pc pd : Nat) (w : World)
set_option maxHeartbeats 2000000 in
theorem ask_count (B : BookAt base w gb bv wv vs us Ks) (hs : ∀ K ∈ Ks, K.length ≤ 1920 ∧ Bin K) (h0 l0 er : Int) (UA : ∀ W, Below w.heap.size w W → Calls Try.prog 12 #[.slice aa na pa] W fun r w' => r = .returned (.tuple #[.agg #[.int .u64 h0, .int .u64 l0], .int .i64 er]) ∧ Below W.heap.size W w') (UB : ∀ W, Below w.heap.size w W → Calls Try.prog 25 #[.slice ca nc pc] W fun r w' => r = .returned (.tuple #[.agg #[.int .u64 h0, .int .u64 l0], .int .i64 er]) ∧ Below W.heap.size W w') :
    Calls Try.prog 6 #[.pointer (some ⟨gb, 0, none⟩), .agg (opL 5 I x2 x3 V N).toArray, .slice aa na pa, .slice ba nb pb, .slice ca nc pc, .slice da nd pd] w (AskP base gb bv wv vs us Ks w) := by
  have HA : Hid _ := UA
  have HC : Hid _ := UB
  have HE : Hid (∀ w', Below w.heap.size w w' → AskP base gb bv wv vs us Ks w (.returned (.bool true)) w') := fun w' b => asked B hs b
  have HB1 : Hid _ := al_below w (.cells (opL 5 I x2 x3 V N).toArray 31)
  generalize AskP base gb bv wv vs us Ks w = R at *
  clear UA UB B hs
  simp only [opL] at HB1 ⊢
  go_enter Try.func6, Try.ntmps6
  go_wp2_with (first
    | (go_at_call 12; (with_reducible refine (HA.out _ HB1.out).mono ?_); clear HA; rintro e w2 ⟨rfl, b2⟩; have HB2 : Hid (Below w.heap.size w w2) := HB1.out.trans (b2.mono HB1.out.size); have HB2a : Hid _ := HB2.out.trans ((al_below w2 (.cells #[.int .u64 h0, .int .u64 l0] 42)).mono HB2.out.size); have d0 : (w2.alloc (.cells #[.int .u64 h0, .int .u64 l0] 42)).heap[w2.heap.size]? = some (.cells #[.int .u64 h0, .int .u64 l0] 42 (0, 0)) := heap_alloc_new w2 _; clear b2)
    | (go_at_call 25; (with_reducible refine (HC.out _ HB2a.out).mono ?_); clear HC; rintro e w3 ⟨rfl, b3⟩; have HB3 : Hid (Below w.heap.size w w3) := HB2a.out.trans (b3.mono HB2a.out.size); have q0 : ∀ o, (w3.alloc o).cell? ⟨w2.heap.size, 0, none⟩ = some (.int .u64 h0) := fun o => opc (l := [.int .u64 h0, .int .u64 l0]) (b3.trans ((al_below w3 o).mono b3.size)) 0 _ rfl; have q1 : ∀ o, (w3.alloc o).cell? ⟨w2.heap.size, 1, none⟩ = some (.int .u64 l0) := fun o => opc (l := [.int .u64 h0, .int .u64 l0]) (b3.trans ((al_below w3 o).mono b3.size)) 1 _ rfl; clear b3 d0))
  exact HE.out _ (HB3.out.trans ((al_below w3 _).mono HB3.out.size))
set_option maxHeartbeats 2000000 in
theorem ask_quan (B : BookAt base w gb bv wv vs us Ks) (hs : ∀ K ∈ Ks, K.length ≤ 1920 ∧ Bin K) (sx sy se : Int) (UA : ∀ W, Below w.heap.size w W → Calls Try.prog 11 #[.slice aa na pa, .int .u64 (V : Int), .int .u64 (N : Int)] W fun r w' => r = .returned (.tuple #[.int .u64 sx, .int .u64 sy, .int .i64 se]) ∧ Below W.heap.size W w') (UB : ∀ W, Below w.heap.size w W → Calls Try.prog 26 #[.slice ca nc pc, .int .u64 (V : Int), .int .u64 (N : Int)] W fun r w' => r = .returned (.tuple #[.int .u64 sx, .int .u64 sy, .int .i64 se]) ∧ Below W.heap.size W w') :
    Calls Try.prog 6 #[.pointer (some ⟨gb, 0, none⟩), .agg (opL 6 I x2 x3 V N).toArray, .slice aa na pa, .slice ba nb pb, .slice ca nc pc, .slice da nd pd] w (AskP base gb bv wv vs us Ks w) := by
  have HA : Hid _ := UA
  have HC : Hid _ := UB
  have HE : Hid (∀ w', Below w.heap.size w w' → AskP base gb bv wv vs us Ks w (.returned (.bool true)) w') := fun w' b => asked B hs b
  have HB1 : Hid _ := al_below w (.cells (opL 6 I x2 x3 V N).toArray 31)
  generalize AskP base gb bv wv vs us Ks w = R at *
  clear UA UB B hs
  simp only [opL] at HB1 ⊢
  go_enter Try.func6, Try.ntmps6
  go_wp2_with (first
    | (go_at_call 11; (with_reducible refine (HA.out _ HB1.out).mono ?_); clear HA; rintro e w2 ⟨rfl, b2⟩; have HB2 : Hid (Below w.heap.size w w2) := HB1.out.trans (b2.mono HB1.out.size); have q4 : w2.cell? ⟨w.heap.size, 4, none⟩ = some (.int .u64 (V : Int)) := opc (l := opL 6 I x2 x3 V N) b2 4 _ rfl; have q5 : w2.cell? ⟨w.heap.size, 5, none⟩ = some (.int .u64 (N : Int)) := opc (l := opL 6 I x2 x3 V N) b2 5 _ rfl; clear b2)
    | (go_at_call 26; (with_reducible refine (HC.out _ HB2.out).mono ?_); clear HC; rintro e w3 ⟨rfl, b3⟩; have HB3 : Hid (Below w.heap.size w w3) := HB2.out.trans (b3.mono HB2.out.size); clear b3))
  exact HE.out _ HB3.out
set_option maxHeartbeats 2000000 in
theorem ask_other (B : BookAt base w gb bv wv vs us Ks) (hs : ∀ K ∈ Ks, K.length ≤ 1920 ∧ Bin K) (k : Int) (hk : k < 1 ∨ 6 < k) :
    Calls Try.prog 6 #[.pointer (some ⟨gb, 0, none⟩), .agg (opL k I x2 x3 V N).toArray, .slice aa na pa, .slice ba nb pb, .slice ca nc pc, .slice da nd pd] w (AskP base gb bv wv vs us Ks w) := by
  have HE : Hid (∀ w', Below w.heap.size w w' → AskP base gb bv wv vs us Ks w (.returned (.bool true)) w') := fun w' b => asked B hs b
  have HB1 : Hid _ := al_below w (.cells (opL k I x2 x3 V N).toArray 31)
  generalize AskP base gb bv wv vs us Ks w = R at *
  have k1 : (k == 1) = false := by simp; omega
  have k2 : (k == 2) = false := by simp; omega
  have k3 : (k == 3) = false := by simp; omega
  have k4 : (k == 4) = false := by simp; omega
  have k5 : (k == 5) = false := by simp; omega
  have k6 : (k == 6) = false := by simp; omega
  clear B hs hk
  simp only [opL] at HB1 ⊢
  go_enter Try.func6, Try.ntmps6
  go_wp2
  exact HE.out _ HB1.out
set_option maxHeartbeats 2000000 in
theorem ask_index (B : BookAt base w gb bv wv vs us Ks) (hs : ∀ K ∈ Ks, K.length ≤ 1920 ∧ Bin K) (ix sx sy se ch : Int) (IXa : ∀ W, Calls Try.prog 13 #[.int .u64 (V : Int)] W fun r w' => r = .returned (.int .i64 ix) ∧ w' = W) (IXb : ∀ W, Calls Try.prog 16 #[.int .u64 (V : Int)] W fun r w' => r = .returned (.int .i64 ix) ∧ w' = W)
    (SPa : ∀ W, Calls Try.prog 14 #[.int .i64 I] W fun r w' => r = .returned (.tuple #[.int .u64 sx, .int .u64 sy, .int .i64 se]) ∧ Below W.heap.size W w') (SPb : ∀ W, Calls Try.prog 15 #[.int .i64 I] W fun r w' => r = .returned (.tuple #[.int .u64 sx, .int .u64 sy, .int .i64 se]) ∧ Below W.heap.size W w')
    (CKa : ∀ W, Below w.heap.size w W → Calls Try.prog 17 #[.slice aa na pa] W fun r w' => r = .returned (.int .i64 ch) ∧ Below W.heap.size W w') (CKb : ∀ W, Below w.heap.size w W → Calls Try.prog 18 #[.slice ca nc pc] W fun r w' => r = .returned (.int .i64 ch) ∧ Below W.heap.size W w') :
    Calls Try.prog 6 #[.pointer (some ⟨gb, 0, none⟩), .agg (opL 1 I x2 x3 V N).toArray, .slice aa na pa, .slice ba nb pb, .slice ca nc pc, .slice da nd pd] w (AskP base gb bv wv vs us Ks w) := by
  have IX1 : Hid _ := IXa
  have IX2 : Hid _ := IXb
  have SP1 : Hid _ := SPa
  have SP2 : Hid _ := SPb
  have CK1 : Hid _ := CKa
  have CK2 : Hid _ := CKb
  have HE : Hid (∀ w', Below w.heap.size w w' → AskP base gb bv wv vs us Ks w (.returned (.bool true)) w') := fun w' b => asked B hs b
  have HB1 : Hid _ := al_below w (.cells (opL 1 I x2 x3 V N).toArray 31)
  generalize AskP base gb bv wv vs us Ks w = R at *
  clear IXa IXb SPa SPb CKa CKb B hs
  simp only [opL] at HB1 ⊢
  go_enter Try.func6, Try.ntmps6
  go_wp2_with (first
    | (go_at_call 14; (with_reducible refine (SP1.out _).mono ?_); clear SP1; rintro e w1 ⟨rfl, b1⟩; have HBw : Hid (Below w.heap.size w w1) := HB1.out.trans (b1.mono HB1.out.size); have HX1 : Hid _ := b1; have q1 : w1.cell? ⟨w.heap.size, 1, none⟩ = some (.int .i64 I) := opc (l := opL 1 I x2 x3 V N) b1 1 _ rfl; clear b1)
    | (go_at_call 15; (with_reducible refine (SP2.out _).mono ?_); clear SP2; rintro e w2 ⟨rfl, b2⟩; have HB2 : Hid (Below w.heap.size w w2) := HBw.out.trans (b2.mono HBw.out.size); have HX : Hid _ := HX1.out.trans (b2.mono HX1.out.size); clear b2 HX1))
  have hS0 : Below w2.heap.size w2 w2.drew := (Below.refl _ _).drew
  refine wp_region_held (S := fun W => Below w2.heap.size w2 W) (by kernel_rfl) ?_
  change wpAnyH _ _ _ _ _ _ _ _ (World.drew _)
  refine takeH (i := 0) (v := .pointer (some ⟨w.heap.size, 4, none⟩)) rfl (by kernel_rfl) (by kernel_rfl) (by kernel_rfl) (fun _ _ _ h => h) (Or.inl ⟨by rfl, fun W hW => by go_simp⟩) hS0 ?_
  simp only [Act.put, List.setIfInBounds_toArray, List.set_cons_zero, List.set_cons_succ]
  refine takeH (i := 1) (v := .int .u64 (V : Int)) rfl (by kernel_rfl) (by kernel_rfl) (by kernel_rfl) (fun _ _ _ h => h) (Or.inl ⟨by rfl, fun W hW => by have hq : W.cell? ⟨w.heap.size, 4, none⟩ = some (.int .u64 (V : Int)) := opc (l := opL 1 I x2 x3 V N) (HX.out.trans (hW.mono HX.out.size)) 4 _ rfl; go_simp⟩) hS0 ?_
  simp only [Act.put, List.setIfInBounds_toArray, List.set_cons_zero, List.set_cons_succ]
  refine takeH (i := 3) (v := .pointer (some ⟨w.heap.size, 4, none⟩)) rfl (by kernel_rfl) (by kernel_rfl) (by kernel_rfl) (fun _ _ _ h => h) (Or.inl ⟨by rfl, fun W hW => by go_simp⟩) hS0 ?_
  simp only [Act.put, List.setIfInBounds_toArray, List.set_cons_zero, List.set_cons_succ]
  refine takeH (i := 4) (v := .int .u64 (V : Int)) rfl (by kernel_rfl) (by kernel_rfl) (by kernel_rfl) (fun _ _ _ h => h) (Or.inl ⟨by rfl, fun W hW => by have hq : W.cell? ⟨w.heap.size, 4, none⟩ = some (.int .u64 (V : Int)) := opc (l := opL 1 I x2 x3 V N) (HX.out.trans (hW.mono HX.out.size)) 4 _ rfl; go_simp⟩) hS0 ?_
  simp only [Act.put, List.setIfInBounds_toArray, List.set_cons_zero, List.set_cons_succ]
  refine onlyH (i := 2) rfl (by kernel_rfl) (fun K hK => ?_)
  go_simp
  go_at_call 13
  (with_reducible refine (IX1.out _).mono ?_)
  rintro e v1 ⟨rfl, hv1⟩
  have hS1 : Below w2.heap.size w2 v1 := by rw [hv1]; exact hS0
  refine hK _ _ ⟨hS1, ?_⟩
  clear hK K hv1
  refine onlyH (i := 5) rfl (by kernel_rfl) (fun K hK => ?_)
  go_simp
  go_at_call 16
  (with_reducible refine (IX2.out _).mono ?_)
  rintro e v2 ⟨rfl, hv2⟩
  have hS2 : Below w2.heap.size w2 v2 := by rw [hv2]; exact hS1
  refine hK _ _ ⟨hS2, ?_⟩
  clear hK K hv2
  refine takeH (i := 6) (v := .bool true) rfl (by kernel_rfl) (by kernel_rfl) (by kernel_rfl) (fun _ _ _ h => h) (Or.inl ⟨by rfl, fun W hW => by go_simp⟩) hS2 ?_
  simp only [Act.put, List.setIfInBounds_toArray, List.set_cons_zero, List.set_cons_succ]
  refine takeH (i := 7) (v := .bool true) rfl (by kernel_rfl) (by kernel_rfl) (by kernel_rfl) (fun _ _ _ h => h) (Or.inl ⟨by rfl, fun W hW => by go_simp⟩) hS2 ?_
  simp only [Act.put, List.setIfInBounds_toArray, List.set_cons_zero, List.set_cons_succ]
  refine takeH (i := 8) (v := .int .u64 sx) rfl (by kernel_rfl) (by kernel_rfl) (by kernel_rfl) (fun _ _ _ h => h) (Or.inl ⟨by rfl, fun W hW => by go_simp⟩) hS2 ?_
  simp only [Act.put, List.setIfInBounds_toArray, List.set_cons_zero, List.set_cons_succ]
  refine takeH (i := 9) (v := .int .u64 sx) rfl (by kernel_rfl) (by kernel_rfl) (by kernel_rfl) (fun _ _ _ h => h) (Or.inl ⟨by rfl, fun W hW => by go_simp⟩) hS2 ?_
  simp only [Act.put, List.setIfInBounds_toArray, List.set_cons_zero, List.set_cons_succ]
  refine takeH (i := 10) (v := .bool true) rfl (by kernel_rfl) (by kernel_rfl) (by kernel_rfl) (fun _ _ _ h => h) (Or.inl ⟨by rfl, fun W hW => by go_simp⟩) hS2 ?_
  simp only [Act.put, List.setIfInBounds_toArray, List.set_cons_zero, List.set_cons_succ]
  refine takeH (i := 11) (v := .bool true) rfl (by kernel_rfl) (by kernel_rfl) (by kernel_rfl) (fun _ _ _ h => h) (Or.inl ⟨by rfl, fun W hW => by go_simp⟩) hS2 ?_
  simp only [Act.put, List.setIfInBounds_toArray, List.set_cons_zero, List.set_cons_succ]
  refine takeH (i := 12) (v := .bool true) rfl (by kernel_rfl) (by kernel_rfl) (by kernel_rfl) (fun _ _ _ h => h) (Or.inl ⟨by rfl, fun W hW => by go_simp⟩) hS2 ?_
  simp only [Act.put, List.setIfInBounds_toArray, List.set_cons_zero, List.set_cons_succ]
  refine takeH (i := 13) (v := .int .u64 sy) rfl (by kernel_rfl) (by kernel_rfl) (by kernel_rfl) (fun _ _ _ h => h) (Or.inl ⟨by rfl, fun W hW => by go_simp⟩) hS2 ?_
  simp only [Act.put, List.setIfInBounds_toArray, List.set_cons_zero, List.set_cons_succ]
  refine takeH (i := 14) (v := .int .u64 sy) rfl (by kernel_rfl) (by kernel_rfl) (by kernel_rfl) (fun _ _ _ h => h) (Or.inl ⟨by rfl, fun W hW => by go_simp⟩) hS2 ?_
  simp only [Act.put, List.setIfInBounds_toArray, List.set_cons_zero, List.set_cons_succ]
  refine takeH (i := 15) (v := .bool true) rfl (by kernel_rfl) (by kernel_rfl) (by kernel_rfl) (fun _ _ _ h => h) (Or.inl ⟨by rfl, fun W hW => by go_simp⟩) hS2 ?_
  simp only [Act.put, List.setIfInBounds_toArray, List.set_cons_zero, List.set_cons_succ]
  refine takeH (i := 16) (v := .bool true) rfl (by kernel_rfl) (by kernel_rfl) (by kernel_rfl) (fun _ _ _ h => h) (Or.inl ⟨by rfl, fun W hW => by go_simp⟩) hS2 ?_
  simp only [Act.put, List.setIfInBounds_toArray, List.set_cons_zero, List.set_cons_succ]
  refine takeH (i := 17) (v := .bool true) rfl (by kernel_rfl) (by kernel_rfl) (by kernel_rfl) (fun _ _ _ h => h) (Or.inl ⟨by rfl, fun W hW => by go_simp⟩) hS2 ?_
  simp only [Act.put, List.setIfInBounds_toArray, List.set_cons_zero, List.set_cons_succ]
  refine takeH (i := 18) (v := .int .i64 se) rfl (by kernel_rfl) (by kernel_rfl) (by kernel_rfl) (fun _ _ _ h => h) (Or.inl ⟨by rfl, fun W hW => by go_simp⟩) hS2 ?_
  simp only [Act.put, List.setIfInBounds_toArray, List.set_cons_zero, List.set_cons_succ]
  refine takeH (i := 19) (v := .int .i64 se) rfl (by kernel_rfl) (by kernel_rfl) (by kernel_rfl) (fun _ _ _ h => h) (Or.inl ⟨by rfl, fun W hW => by go_simp⟩) hS2 ?_
  simp only [Act.put, List.setIfInBounds_toArray, List.set_cons_zero, List.set_cons_succ]
  refine takeH (i := 20) (v := .bool true) rfl (by kernel_rfl) (by kernel_rfl) (by kernel_rfl) (fun _ _ _ h => h) (Or.inl ⟨by rfl, fun W hW => by go_simp⟩) hS2 ?_
  simp only [Act.put, List.setIfInBounds_toArray, List.set_cons_zero, List.set_cons_succ]
  refine takeH (i := 21) (v := .bool true) rfl (by kernel_rfl) (by kernel_rfl) (by kernel_rfl) (fun _ _ _ h => h) (Or.inl ⟨by rfl, fun W hW => by go_simp⟩) hS2 ?_
  simp only [Act.put, List.setIfInBounds_toArray, List.set_cons_zero, List.set_cons_succ]
  refine takeH (i := 22) (v := .bool true) rfl (by kernel_rfl) (by kernel_rfl) (by kernel_rfl) (fun _ _ _ h => h) (Or.inl ⟨by rfl, fun W hW => by go_simp⟩) hS2 ?_
  simp only [Act.put, List.setIfInBounds_toArray, List.set_cons_zero, List.set_cons_succ]
  refine takeH (i := 23) (v := .slice aa na pa) rfl (by kernel_rfl) (by kernel_rfl) (by kernel_rfl) (fun _ _ _ h => h) (Or.inl ⟨by rfl, fun W hW => by go_simp⟩) hS2 ?_
  simp only [Act.put, List.setIfInBounds_toArray, List.set_cons_zero, List.set_cons_succ]
  refine takeH (i := 25) (v := .slice ca nc pc) rfl (by kernel_rfl) (by kernel_rfl) (by kernel_rfl) (fun _ _ _ h => h) (Or.inl ⟨by rfl, fun W hW => by go_simp⟩) hS2 ?_
  simp only [Act.put, List.setIfInBounds_toArray, List.set_cons_zero, List.set_cons_succ]
  refine onlyH (i := 24) rfl (by kernel_rfl) (fun K hK => ?_)
  go_simp
  go_at_call 17
  (with_reducible refine (CK1.out _ (HB2.out.trans (hS2.mono HB2.out.size))).mono ?_)
  rintro e v3 ⟨rfl, b3⟩
  have hS3 : Below w2.heap.size w2 v3 := hS2.trans (b3.mono hS2.size)
  refine hK _ _ ⟨hS3, ?_⟩
  clear hK K
  refine onlyH (i := 26) rfl (by kernel_rfl) (fun K hK => ?_)
  go_simp
  go_at_call 18
  (with_reducible refine (CK2.out _ (HB2.out.trans (hS3.mono HB2.out.size))).mono ?_)
  rintro e v4 ⟨rfl, b4⟩
  have hS4 : Below w2.heap.size w2 v4 := hS3.trans (b4.mono hS3.size)
  refine hK _ _ ⟨hS4, ?_⟩
  clear hK K
  refine takeH (i := 27) (v := .bool true) rfl (by kernel_rfl) (by kernel_rfl) (by kernel_rfl) (fun _ _ _ h => h) (Or.inl ⟨by rfl, fun W hW => by go_simp⟩) hS4 ?_
  simp only [Act.put, List.setIfInBounds_toArray, List.set_cons_zero, List.set_cons_succ]
  refine takeH (i := 28) (v := .bool true) rfl (by kernel_rfl) (by kernel_rfl) (by kernel_rfl) (fun _ _ _ h => h) (Or.inl ⟨by rfl, fun W hW => by go_simp⟩) hS4 ?_
  simp only [Act.put, List.setIfInBounds_toArray, List.set_cons_zero, List.set_cons_succ]
  refine takeH (i := 29) (v := .bool true) rfl (by kernel_rfl) (by kernel_rfl) (by kernel_rfl) (fun _ _ _ h => h) (Or.inl ⟨by rfl, fun W hW => by go_simp⟩) hS4 ?_
  simp only [Act.put, List.setIfInBounds_toArray, List.set_cons_zero, List.set_cons_succ]
  refine wpAnyH_done (by kernel_rfl) ?_ _
  go_wp2
  exact HE.out _ (HB2.out.trans (hS4.mono HB2.out.size))
set_option maxHeartbeats 2000000 in
theorem ask_add (B : BookAt base w gb bv wv vs us Ks) (hb : base ≤ w.heap.size) (hs : ∀ K ∈ Ks, K.length ≤ 1920 ∧ Bin K) (hn : Ks.length ≤ 7000000000) (L : List (Int × Int)) (err : Int) (hL : L.length ≤ 1920 ∧ Bin L) (UA : ∀ W, Below w.heap.size w W → Calls Try.prog 10 #[.slice aa na pa, .int .u64 (V : Int), .int .u64 (N : Int)] W (MadeU L err W)) (UB : ∀ W, Below w.heap.size w W → Calls Try.prog 19 #[.slice ca nc pc, .int .u64 (V : Int), .int .u64 (N : Int)] W (MadeU L err W)) :
    Calls Try.prog 6 #[.pointer (some ⟨gb, 0, none⟩), .agg (opL 2 I x2 x3 V N).toArray, .slice aa na pa, .slice ba nb pb, .slice ca nc pc, .slice da nd pd] w (AskP base gb bv wv vs us Ks w) := by
  have HA : Hid _ := UA
  have HC : Hid _ := UB
  have HB1 : Hid _ := al_below w (.cells (opL 2 I x2 x3 V N).toArray 31)
  have HH : Hid (∀ w2 w3 a2 n2 c2 a3 n3 c3, Below (w.alloc (.cells (opL 2 I x2 x3 V N).toArray 31)).heap.size (w.alloc (.cells (opL 2 I x2 x3 V N).toArray 31)) w2 → OwnBar (w.alloc (.cells (opL 2 I x2 x3 V N).toArray 31)).heap.size w2 (.slice a2 n2 c2) L → Below w2.heap.size w2 w3 → OwnBar w2.heap.size w3 (.slice a3 n3 c3) L → Calls Try.prog 20 #[.pointer (some ⟨gb, 0, none⟩), .slice a2 n2 c2, .slice a3 n3 c3] w3 (AskP base gb bv wv vs us Ks w)) := fun w2 w3 a2 n2 c2 a3 n3 c3 b2 hx b3 hy => held B hb hs hn hL (al_below w _) b2 hx b3 hy
  have HT : Hid (∀ e w', AskP base gb bv wv vs us Ks w e w' → e = .returned (.bool true)) := fun e w' h => h.1
  generalize AskP base gb bv wv vs us Ks w = R at *
  clear UA UB B hs hb hn hL
  simp only [opL] at HB1 HH ⊢
  go_enter Try.func6, Try.ntmps6
  go_wp2_with (first
    | (go_at_call 10; (with_reducible refine (HA.out _ HB1.out).mono ?_); clear HA; rintro e w2 ⟨a2, n2, c2, rfl, HO2, b2⟩; have HB2 : Hid (Below w.heap.size w w2) := HB1.out.trans (b2.mono HB1.out.size); have HBb : Hid _ := b2; have q4 : w2.cell? ⟨w.heap.size, 4, none⟩ = some (.int .u64 (V : Int)) := opc (l := opL 2 I x2 x3 V N) b2 4 _ rfl; have q5 : w2.cell? ⟨w.heap.size, 5, none⟩ = some (.int .u64 (N : Int)) := opc (l := opL 2 I x2 x3 V N) b2 5 _ rfl; clear b2)
    | (go_at_call 19; (with_reducible refine (HC.out _ HB2.out).mono ?_); clear HC; rintro e w3 ⟨a3, n3, c3, rfl, HO3, b3⟩; have BK := HH.out w2 w3 a2 n2 c2 a3 n3 c3 HBb.out HO2.out b3 HO3.out; clear b3 HO2 HO3 HH)
    | (go_at_call 20; (with_reducible refine BK.mono ?_); clear BK; intro e w4 h4; obtain rfl := HT.out e w4 h4; have H4 : Hid _ := h4; clear h4))
  exact H4.out
set_option maxHeartbeats 2000000 in
theorem ask_merge (B : BookAt base w gb bv wv vs us Ks) (hb : base ≤ w.heap.size) (hs : ∀ K ∈ Ks, K.length ≤ 1920 ∧ Bin K) (hn : Ks.length ≤ 7000000000) (L : List (Int × Int)) (err : Int) (hL : L.length ≤ 1920 ∧ Bin L) (UA : ∀ W, Below w.heap.size w W → Calls Try.prog 21 #[.slice aa na pa, .slice ba nb pb] W (MadeU L err W)) (UB : ∀ W, Below w.heap.size w W → Calls Try.prog 22 #[.slice ca nc pc, .slice da nd pd] W (MadeU L err W)) :
    Calls Try.prog 6 #[.pointer (some ⟨gb, 0, none⟩), .agg (opL 3 I x2 x3 V N).toArray, .slice aa na pa, .slice ba nb pb, .slice ca nc pc, .slice da nd pd] w (AskP base gb bv wv vs us Ks w) := by
  have HA : Hid _ := UA
  have HC : Hid _ := UB
  have HB1 : Hid _ := al_below w (.cells (opL 3 I x2 x3 V N).toArray 31)
  have HH : Hid (∀ w2 w3 a2 n2 c2 a3 n3 c3, Below (w.alloc (.cells (opL 3 I x2 x3 V N).toArray 31)).heap.size (w.alloc (.cells (opL 3 I x2 x3 V N).toArray 31)) w2 → OwnBar (w.alloc (.cells (opL 3 I x2 x3 V N).toArray 31)).heap.size w2 (.slice a2 n2 c2) L → Below w2.heap.size w2 w3 → OwnBar w2.heap.size w3 (.slice a3 n3 c3) L → Calls Try.prog 20 #[.pointer (some ⟨gb, 0, none⟩), .slice a2 n2 c2, .slice a3 n3 c3] w3 (AskP base gb bv wv vs us Ks w)) := fun w2 w3 a2 n2 c2 a3 n3 c3 b2 hx b3 hy => held B hb hs hn hL (al_below w _) b2 hx b3 hy
  have HT : Hid (∀ e w', AskP base gb bv wv vs us Ks w e w' → e = .returned (.bool true)) := fun e w' h => h.1
  generalize AskP base gb bv wv vs us Ks w = R at *
  clear UA UB B hs hb hn hL
  simp only [opL] at HB1 HH ⊢
  go_enter Try.func6, Try.ntmps6
  go_wp2_with (first
    | (go_at_call 21; (with_reducible refine (HA.out _ HB1.out).mono ?_); clear HA; rintro e w2 ⟨a2, n2, c2, rfl, HO2, b2⟩; have HB2 : Hid (Below w.heap.size w w2) := HB1.out.trans (b2.mono HB1.out.size); have HBb : Hid _ := b2; clear b2)
    | (go_at_call 22; (with_reducible refine (HC.out _ HB2.out).mono ?_); clear HC; rintro e w3 ⟨a3, n3, c3, rfl, HO3, b3⟩; have BK := HH.out w2 w3 a2 n2 c2 a3 n3 c3 HBb.out HO2.out b3 HO3.out; clear b3 HO2 HO3 HH)
    | (go_at_call 20; (with_reducible refine BK.mono ?_); clear BK; intro e w4 h4; obtain rfl := HT.out e w4 h4; have H4 : Hid _ := h4; clear h4))
  exact H4.out
set_option maxHeartbeats 2000000 in
theorem ask_less (B : BookAt base w gb bv wv vs us Ks) (hb : base ≤ w.heap.size) (hs : ∀ K ∈ Ks, K.length ≤ 1920 ∧ Bin K) (hn : Ks.length ≤ 7000000000) (L : List (Int × Int)) (err : Int) (hL : L.length ≤ 1920 ∧ Bin L) (UA : ∀ W, Below w.heap.size w W → Calls Try.prog 23 #[.slice aa na pa, .slice ba nb pb] W (MadeU L err W)) (UB : ∀ W, Below w.heap.size w W → Calls Try.prog 24 #[.slice ca nc pc, .slice da nd pd] W (MadeU L err W)) :
    Calls Try.prog 6 #[.pointer (some ⟨gb, 0, none⟩), .agg (opL 4 I x2 x3 V N).toArray, .slice aa na pa, .slice ba nb pb, .slice ca nc pc, .slice da nd pd] w (AskP base gb bv wv vs us Ks w) := by
  have HA : Hid _ := UA
  have HC : Hid _ := UB
  have HB1 : Hid _ := al_below w (.cells (opL 4 I x2 x3 V N).toArray 31)
  have HH : Hid (∀ w2 w3 a2 n2 c2 a3 n3 c3, Below (w.alloc (.cells (opL 4 I x2 x3 V N).toArray 31)).heap.size (w.alloc (.cells (opL 4 I x2 x3 V N).toArray 31)) w2 → OwnBar (w.alloc (.cells (opL 4 I x2 x3 V N).toArray 31)).heap.size w2 (.slice a2 n2 c2) L → Below w2.heap.size w2 w3 → OwnBar w2.heap.size w3 (.slice a3 n3 c3) L → Calls Try.prog 20 #[.pointer (some ⟨gb, 0, none⟩), .slice a2 n2 c2, .slice a3 n3 c3] w3 (AskP base gb bv wv vs us Ks w)) := fun w2 w3 a2 n2 c2 a3 n3 c3 b2 hx b3 hy => held B hb hs hn hL (al_below w _) b2 hx b3 hy
  have HT : Hid (∀ e w', AskP base gb bv wv vs us Ks w e w' → e = .returned (.bool true)) := fun e w' h => h.1
  generalize AskP base gb bv wv vs us Ks w = R at *
  clear UA UB B hs hb hn hL
  simp only [opL] at HB1 HH ⊢
  go_enter Try.func6, Try.ntmps6
  go_wp2_with (first
    | (go_at_call 23; (with_reducible refine (HA.out _ HB1.out).mono ?_); clear HA; rintro e w2 ⟨a2, n2, c2, rfl, HO2, b2⟩; have HB2 : Hid (Below w.heap.size w w2) := HB1.out.trans (b2.mono HB1.out.size); have HBb : Hid _ := b2; clear b2)
    | (go_at_call 24; (with_reducible refine (HC.out _ HB2.out).mono ?_); clear HC; rintro e w3 ⟨a3, n3, c3, rfl, HO3, b3⟩; have BK := HH.out w2 w3 a2 n2 c2 a3 n3 c3 HBb.out HO2.out b3 HO3.out; clear b3 HO2 HO3 HH)
    | (go_at_call 20; (with_reducible refine BK.mono ?_); clear BK; intro e w4 h4; obtain rfl := HT.out e w4 h4; have H4 : Hid _ := h4; clear h4))
  exact H4.out
end
end Go.Proofs.Ytmegmjhkjaejgaa.sk.pl
