/-
  Layer 7 (disk), DiskLasts: its acts.
-/
import Derived.Test.YtoedeoilaeppnaaEd
import Derived.Deep.Cut
import Derived.Laws.IdiomStrings
import Derived.Deep.CutRange
import Derived.Deep.CutBlock
namespace Go.Proofs.Ytoedeoilaeppnaa
open Go.RowKit Go.Shelf Go.Maps Go.WideMaps
set_option maxRecDepth 100000

theorem Try.info9 : (Try.prog.info? 9).map (fun i => (i.zero, i.size, i.bytes)) = some (some (.string ⟨#[]⟩), 1, 16) := by kernel_rfl
structure Ac where
  f : Int
  k : Int
  s : ByteArray
structure AcAt (base : Nat) (w : World) (ad : Option Addr) (n : Nat) (A : List Ac) : Prop where
  len : A.length = n
  lies : 0 < n → ∃ b off, ad = some ⟨b, off, none⟩ ∧ b < base ∧ ∀ (i : Nat) x, A[i]? = some x → w.cell? ⟨b, off + i * 3, none⟩ = some (.int .i64 x.f) ∧ w.cell? ⟨b, off + i * 3 + 1, none⟩ = some (.int .i64 x.k) ∧ w.cell? ⟨b, off + i * 3 + 2, none⟩ = some (.string x.s)
  fit : ∀ x ∈ A, (-9223372036854775808 ≤ x.f ∧ x.f ≤ 9223372036854775807) ∧ (-9223372036854775808 ≤ x.k ∧ x.k ≤ 9223372036854775807) ∧ x.s.size ≤ 140737488355328
theorem AcAt.below {base : Nat} {w w' : World} {ad : Option Addr} {n : Nat} {A : List Ac} (h : AcAt base w ad n A) (hb : Below base w w') : AcAt base w' ad n A :=
  ⟨h.len, fun hp => by
    obtain ⟨b, off, e, hl, hc⟩ := h.lies hp
    refine ⟨b, off, e, hl, fun i x hx => ?_⟩
    obtain ⟨c0, c1, c2⟩ := hc i x hx
    exact ⟨(hb.cell (p := ⟨b, off + i * 3, none⟩) hl).trans c0, (hb.cell (p := ⟨b, off + i * 3 + 1, none⟩) hl).trans c1, (hb.cell (p := ⟨b, off + i * 3 + 2, none⟩) hl).trans c2⟩, h.fit⟩
theorem AcAt.mono {base base' : Nat} {w : World} {ad : Option Addr} {n : Nat} {A : List Ac} (h : AcAt base w ad n A) (hb : base ≤ base') : AcAt base' w ad n A :=
  ⟨h.len, fun hp => by
    obtain ⟨b, off, e, hl, hc⟩ := h.lies hp
    exact ⟨b, off, e, by omega, hc⟩, h.fit⟩
def totA (A : List Ac) : Nat := (A.map fun x => 1 + x.s.size).sum
theorem totA_take (A : List Ac) (i : Nat) (x : Ac) (h : A[i]? = some x) : totA (A.take (i + 1)) = totA (A.take i) + (1 + x.s.size) := by
  obtain ⟨hl, rfl⟩ := List.getElem?_eq_some_iff.1 h
  unfold totA
  rw [List.take_succ_eq_append_getElem hl]
  simp only [List.map_append, List.sum_append, List.map_cons, List.map_nil, List.sum_cons, List.sum_nil, Nat.add_zero]
theorem totA_le (A : List Ac) (i : Nat) (h : i ≤ A.length) : i ≤ totA (A.take i) := by
  induction i with
  | zero => omega
  | succ k ih =>
    have := totA_take A k A[k] (List.getElem?_eq_getElem (by omega))
    have := ih (by omega)
    omega
theorem totA_mono (A : List Ac) (i : Nat) : totA (A.take i) ≤ totA A := by
  have e : totA A = totA (A.take i) + totA (A.drop i) := by
    unfold totA
    rw [← List.sum_append, ← List.map_append, List.take_append_drop]
  omega
theorem Lst.start {w1 w2 : World} (D : DiskAt w1.heap.size w2 (w1.heap.size + 3) 0 ⟨w1.heap.size, w1.heap.size + 1, w1.heap.size + 2, 0, .slice none 0 0, [], 0, 0, 0, false, .map [], .map [], .map []⟩) (b : Below w1.heap.size w1 w2) : Lst w1 w1.heap.size (w1.heap.size + 3) w2 (.slice none 0 0) (.slice none 0 0) 0 0 ⟨w1.heap.size, w1.heap.size + 1, w1.heap.size + 2, 0, .slice none 0 0, [], 0, 0, 0, false, .map [], .map [], .map []⟩ [] [] [] 0 :=
  ⟨⟨⟨D, fun i p hp => by simp at hp, fun i j p q hp => by simp at hp, fun i p hp => by simp at hp, fun i hi => by simp at hi, rfl, rfl⟩, rfl, rfl, rfl, rfl, Nat.le_refl _, Nat.le_refl _⟩, World.ownsRow_nil _ _ _ _, World.ownsRow_nil _ _ _ _, ⟨rfl, rfl, fun i p hp => by simp at hp, fun i p hp => by simp at hp, fun i s hs => by simp at hs, Nat.le_refl _⟩, b, Nat.le_refl _⟩
/-- Behind an append to the statement's lists. -/
theorem Lz.row {base base' : Nat} {w w' : World} {d N : Nat} {K : Dk} {Fs : List (Nat × Fl)} {m : Nat} {v : Value} {e : TypeId} {n : Nat} {xs : List Value} (h : Lz base w d N K Fs m) (ho : w.ownsRow base' e 1 v n xs) (he : e = 9 ∨ e = 3) (hg : w.grownBy w' v.ownBlock) : Lz base w' d N K Fs m :=
  h.upd ((Upd.refl (fun k => v.ownBlock = some k) w).grown hg (fun _ _ e => e)) (fun _ hk _ => own_oth ho he hk)
theorem row_upd {S : Nat → Prop} {b : Nat} {w w' : World} {d N : Nat} {K : Dk} {Fs : List (Nat × Fl)} {m : Nat} (h : Lz b w d N K Fs m) (u : Upd S w w') (hS : ∀ k, S k → k < w.heap.size → Oth w k ∧ b ≤ k) (hb : b ≤ w.heap.size) : Lz b w' d N K Fs m ∧ Below b w w' := by
  refine ⟨h.upd u (fun k hk hl => (hS k hk hl).1), u.below hb (fun k hk e => ?_)⟩
  by_cases hl : k < w.heap.size
  · have := (hS k e hl).2; omega
  · omega
/-- A file more. -/
theorem app_seen {b : Nat} {w w5 : World} {d N : Nat} {K : Dk} {Fs : List (Nat × Fl)} {m : Nat} {sv yv v5 : Value} {Ss : List ByteArray} {Ys : List Nat} {o : Obj} (h : Lz b w d N K Fs m) (rs : RowS b w sv Ss) (ry : RowY b w yv Ys) (hb : b ≤ w.heap.size) (o5 : w5.ownsRow b 9 1 v5 (Ss.length + 1) (Ss.map Value.string ++ [.string ⟨#[]⟩])) (g : (w.alloc o).grownBy w5 sv.ownBlock) : Lz b w5 d N K Fs m ∧ RowS b w5 v5 (Ss ++ [⟨#[]⟩]) ∧ RowY b w5 yv Ys ∧ Below b w w5 := by
  have u : Upd (fun k => sv.ownBlock = some k) w w5 := ((Upd.refl _ w).alloc o).grown g (fun _ _ e => e)
  obtain ⟨h1, h2⟩ := row_upd h u (fun k hk _ => ⟨own_oth rs (Or.inl rfl) hk, (own_lt rs hk).2⟩) hb
  refine ⟨h1, ?_, ownsRow_upd ry u (fun k e hh => own_apart rs ry hh e), h2⟩
  unfold RowS
  rw [List.length_append, List.map_append]
  exact o5
theorem app_sync {b : Nat} {w w5 : World} {d N : Nat} {K : Dk} {Fs : List (Nat × Fl)} {m : Nat} {sv yv v5 : Value} {Ss : List ByteArray} {Ys : List Nat} {o : Obj} (h : Lz b w d N K Fs m) (rs : RowS b w sv Ss) (ry : RowY b w yv Ys) (hb : b ≤ w.heap.size) (o5 : w5.ownsRow b 3 1 v5 (Ys.length + 1) (Ys.map yV ++ [.int .i64 0])) (g : (w.alloc o).grownBy w5 yv.ownBlock) : Lz b w5 d N K Fs m ∧ RowS b w5 sv Ss ∧ RowY b w5 v5 (Ys ++ [0]) ∧ Below b w w5 := by
  have u : Upd (fun k => yv.ownBlock = some k) w w5 := ((Upd.refl _ w).alloc o).grown g (fun _ _ e => e)
  obtain ⟨h1, h2⟩ := row_upd h u (fun k hk _ => ⟨own_oth ry (Or.inr rfl) hk, (own_lt ry hk).2⟩) hb
  refine ⟨h1, ownsRow_upd rs u (fun k e hh => own_apart rs ry e hh), ?_, h2⟩
  unfold RowY
  rw [List.length_append, List.map_append]
  exact o5
/-- A cell of the lists written. -/
theorem set_seen {b : Nat} {w : World} {d N : Nat} {K : Dk} {Fs : List (Nat × Fl)} {m g l c : Nat} {yv : Value} {Ss : List ByteArray} {Ys : List Nat} (h : Lz b w d N K Fs m) (rs : RowS b w (.slice (some ⟨g, 0, none⟩) l c) Ss) (ry : RowY b w yv Ys) (hb : b ≤ w.heap.size) (i : Nat) (s : ByteArray) : Lz b (w.setCell ⟨g, i, none⟩ (.string s)) d N K Fs m ∧ RowS b (w.setCell ⟨g, i, none⟩ (.string s)) (.slice (some ⟨g, 0, none⟩) l c) (Ss.set i s) ∧ RowY b (w.setCell ⟨g, i, none⟩ (.string s)) yv Ys ∧ Below b w (w.setCell ⟨g, i, none⟩ (.string s)) := by
  have u : Upd (fun k => k = g) w (w.setCell ⟨g, i, none⟩ (.string s)) := (Upd.refl (fun k => k = g) w).setCell (p := ⟨g, i, none⟩) (fun _ => rfl) _
  obtain ⟨h1, h2⟩ := row_upd h u (fun k hk _ => by subst hk; exact ⟨own_oth rs (Or.inl rfl) rfl, (own_lt rs rfl).2⟩) hb
  refine ⟨h1, ?_, ownsRow_upd ry u (fun k e hh => by subst hh; exact own_apart rs ry rfl e), h2⟩
  unfold RowS
  rw [List.length_set, List.map_set]
  exact own_set rs i _
theorem set_sync {b : Nat} {w : World} {d N : Nat} {K : Dk} {Fs : List (Nat × Fl)} {m g l c : Nat} {sv : Value} {Ss : List ByteArray} {Ys : List Nat} (h : Lz b w d N K Fs m) (rs : RowS b w sv Ss) (ry : RowY b w (.slice (some ⟨g, 0, none⟩) l c) Ys) (hb : b ≤ w.heap.size) (i y : Nat) : Lz b (w.setCell ⟨g, i, none⟩ (.int .i64 (y : Int))) d N K Fs m ∧ RowS b (w.setCell ⟨g, i, none⟩ (.int .i64 (y : Int))) sv Ss ∧ RowY b (w.setCell ⟨g, i, none⟩ (.int .i64 (y : Int))) (.slice (some ⟨g, 0, none⟩) l c) (Ys.set i y) ∧ Below b w (w.setCell ⟨g, i, none⟩ (.int .i64 (y : Int))) := by
  have u : Upd (fun k => k = g) w (w.setCell ⟨g, i, none⟩ (.int .i64 (y : Int))) := (Upd.refl (fun k => k = g) w).setCell (p := ⟨g, i, none⟩) (fun _ => rfl) _
  obtain ⟨h1, h2⟩ := row_upd h u (fun k hk _ => by subst hk; exact ⟨own_oth ry (Or.inr rfl) rfl, (own_lt ry rfl).2⟩) hb
  refine ⟨h1, ownsRow_upd rs u (fun k e hh => by subst hh; exact own_apart rs ry e rfl), ?_, h2⟩
  unfold RowY
  rw [List.length_set, List.map_set]
  exact own_set ry i _
theorem conv_any (s : ByteArray) : ∃ (cp : World → Nat) (cw : World → World), ∀ W : World, (convert 9 38 (.string s)).run Try.prog W = .ok (.slice (some ⟨W.heap.size, 0, none⟩) s.size (cp W)) (cw W) ∧ Holds (cw W) (some ⟨W.heap.size, 0, none⟩) s.size (bytesI s) ∧ Below W.heap.size W (cw W) ∧ s.size ≤ cp W := by
  refine ⟨_, _, fun w => ⟨run_bytes_of_string (P := Try.prog) w 9 38 5 s Try.underlying9 Try.underlying38 Try.underlying5, ⟨bytesI_length s, fun j u hj => ⟨_, rfl, ?_⟩⟩, ((Below.refl _ _).drew).alloc (Nat.le_refl _) _, ?_⟩⟩
  · have hj' : j < s.data.size := by
      by_cases h : j < s.data.size
      · exact h
      · rw [List.getElem?_eq_none (by rw [List.length_map, bytesI_length]; exact Nat.le_of_not_lt h)] at hj; simp at hj
    have hcell : ∀ (X : Array Value) (fz : Nat × Nat), (w.drew.alloc (.cells X 5 fz)).cell? ⟨w.heap.size, j, none⟩ = X[j]? := by
      intro X fz
      have h1 : (w.drew.alloc (.cells X 5 fz)).heap[w.heap.size]? = some (.cells X 5 fz) := heap_alloc_new w.drew _
      unfold World.cell?; rw [h1]; rfl
    rw [Addr.add_lit, Nat.zero_add, hcell, bytesRow_at s _ j hj', ← hj]
    rw [List.getElem?_map, bytesI, List.getElem?_map, Array.getElem?_toList, Array.getElem?_eq_getElem hj']; rfl
  · exact grownCap_ge _ _ _ _
theorem letters_nm (n : Nat) (hn : n ≤ 1000000000000) (w : World) : Calls Try.prog 8 #[.int .i64 (n : Int)] w fun e w' => e = .returned (.string (nmF n)) ∧ Below w.heap.size w w' := letters_any n hn w
theorem own_keepC {base : Nat} {w w' : World} {e : TypeId} {v : Value} {n : Nat} {xs : List Value} (h : w.ownsRow base e 1 v n xs) (he : e = 9 ∨ e = 3) (hk : KeepC w w') : w'.ownsRow base e 1 v n xs := by
  refine ⟨h.1, ?_⟩
  rcases h.2 with q | ⟨g, cap, cur, q1, q2, q3, q4⟩
  · exact Or.inl q
  · exact Or.inr ⟨g, cap, cur, q1, q2, (hk g ⟨_, _, _, q3, he⟩).trans q3, q4⟩
theorem strI_take (s : ByteArray) (l : Nat) : strI ((bytesI s).take l) = s.extract 0 l := by
  have e1 : ∀ L : List UInt8, (L.map fun b => (b.toNat : Int)).map (fun n => UInt8.ofNat n.toNat) = L := fun L => by
    rw [List.map_map]
    conv => rhs; rw [← List.map_id L]
    refine List.map_congr_left fun x _ => ?_
    simp
  have e2 : (strI ((bytesI s).take l)).data = (s.extract 0 l).data := by
    show (((bytesI s).take l).map (fun n => UInt8.ofNat n.toNat)).toArray = _
    unfold bytesI
    rw [← List.map_take, e1, ByteArray.data_extract, ← Array.toArray_toList (xs := s.data.extract 0 l)]
    congr 1
    simp
  cases h1 : strI ((bytesI s).take l)
  cases h2 : s.extract 0 l
  rw [h1, h2] at e2
  exact congrArg ByteArray.mk e2
/-- What lies behind Restart, for the last look. -/
structure Fin (b d : Nat) (w : World) (N : Nat) (K : Dk) (Gs : List (Nat × Fl)) (Ss : List ByteArray) (Ys : List Nat) (Ks : List Int) (M : Nat) (sv yv : Value) : Prop where
  many : Many nmF b w d N K Gs
  len : Gs.length = M
  dn : K.DN = putL (.map []) (nmL nmF 0 M)
  le : M ≤ Ss.length
  rs : RowS b w sv Ss
  ry : RowY b w yv Ys
  l2 : Ys.length = Ss.length
  small : ∀ (i : Nat) s, Ss[i]? = some s → s.size ≤ 5000000000
  fil : ∀ (i : Nat) p, Gs[i]? = some p → ∃ s y, Ss[i]? = some s ∧ Ys[i]? = some y ∧ y ≤ s.size ∧ p.2.B = (bytesI s).take (y + unitK Ks i)
theorem Fin.below {b d : Nat} {w w' : World} {N : Nat} {K : Dk} {Gs : List (Nat × Fl)} {Ss : List ByteArray} {Ys : List Nat} {Ks : List Int} {M : Nat} {sv yv : Value} (h : Fin b d w N K Gs Ss Ys Ks M sv yv) (hb : Below w.heap.size w w') : Fin b d w' N K Gs Ss Ys Ks M sv yv :=
  ⟨h.many.below hb, h.len, h.dn, h.le, own_below h.rs hb, own_below h.ry hb, h.l2, h.small, h.fil⟩
theorem OneN.below {base : Nat} {w w' : World} {d N : Nat} {K : Dk} {s : ByteArray} {n f : Nat} {F : Fl} (h : OneN base w d N K s n f F) (hb : Below w.heap.size w w') : OneN base w' d N K s n f F :=
  ⟨h.disk.below hb, h.file.below hb, h.has, h.on, h.arm, h.small, h.ok⟩
theorem readL (base d N : Nat) (K : Dk) (s : ByteArray) (n f : Nat) (F : Fl) (m : Nat) (w : World) (h : OneN base w d N K s n f F) (hm : m ≤ F.B.length) (hbig : F.B.length ≤ 140737488355328) :
    Calls Try.prog 15 #[.pointer (some ⟨d, 0, none⟩), .string s, .int .i64 0, .int .i64 (m : Int)] w fun e w' => ∃ a c, e = .returned (.tuple #[.slice a m c, .int .i64 0]) ∧ Holds w' a m (F.B.take m) ∧ Below w.heap.size w w' := by
  by_cases hp : 0 < m
  · refine (readN base d N K s n f F m w h hm hp hbig).mono ?_
    rintro e w' ⟨v, rfl, o, b⟩
    obtain ⟨a, l, c, rfl⟩ := row_shape o
    have hl := (own_len o).1
    rw [List.length_take, Nat.min_eq_left hm] at hl
    subst hl
    exact ⟨a, c, rfl, o.holds, b⟩
  · obtain rfl : m = 0 := by omega
    refine (readN0 base d N K s n f F w h hbig).mono ?_
    rintro e w' ⟨a, c, rfl, b⟩
    exact ⟨a, c, rfl, ⟨rfl, fun j u hj => by simp at hj⟩, b⟩
theorem Fin.at {b d : Nat} {w : World} {N : Nat} {K : Dk} {Gs : List (Nat × Fl)} {Ss : List ByteArray} {Ys : List Nat} {Ks : List Int} {M : Nat} {sv yv : Value} (h : Fin b d w N K Gs Ss Ys Ks M sv yv) (j : Nat) (hj : j < M) : ∃ g G s y lf, OneN b w d N K (nmF j) j g G ∧ Ss[j]? = some s ∧ Ys[j]? = some y ∧ y ≤ s.size ∧ lf = min (y + unitK Ks j) s.size ∧ G.B = (bytesI s).take lf ∧ G.B.length = lf := by
  have hj' : j < Gs.length := by rw [h.len]; exact hj
  obtain ⟨⟨g, G⟩, hp'⟩ : ∃ p, Gs[j]? = some p := ⟨_, List.getElem?_eq_getElem hj'⟩
  obtain ⟨s, y, e1, e2, e3, e4⟩ := h.fil j _ hp'
  have e5 : G.B = (bytesI s).take (min (y + unitK Ks j) s.size) := by
    rw [show G.B = _ from e4]
    by_cases hc : y + unitK Ks j ≤ s.size
    · rw [Nat.min_eq_left hc]
    · rw [Nat.min_eq_right (by omega), List.take_of_length_le (by rw [bytesI_length]; omega), List.take_of_length_le (by rw [bytesI_length]; exact Nat.le_refl _)]
  refine ⟨g, G, s, y, _, h.many.one hp', e1, e2, e3, rfl, e5, ?_⟩
  rw [e5, List.length_take, bytesI_length]
  omega
theorem Fin.no {b d : Nat} {w : World} {N : Nat} {K : Dk} {Gs : List (Nat × Fl)} {Ss : List ByteArray} {Ys : List Nat} {Ks : List Int} {M : Nat} {sv yv : Value} (h : Fin b d w N K Gs Ss Ys Ks M sv yv) (j : Nat) (hj : M ≤ j) (hj2 : j ≤ 10000000000) : Maps.has K.DN (.string (nmF j).data.toList) = false := by
  rw [h.dn]
  cases e : Maps.has (putL (.map []) (nmL nmF 0 M)) (.string (nmF j).data.toList) with
  | false => rfl
  | true =>
    obtain ⟨i, hi, he⟩ := (putL_has nmF M (nmF_nms _ (by omega)) M (Nat.le_refl _)).2.1 _ e
    exact absurd (by injection he) ((nmF_nms (j + 1) (by omega)).inj i j (by omega) (by omega) (by omega))
theorem Lst.restart {w1 : World} {b d : Nat} {wr : World} {sv yv : Value} {m N : Nat} {K : Dk} {Fs : List (Nat × Fl)} {Ss : List ByteArray} {Ys : List Nat} {T : Nat} (h : Lst w1 b d wr sv yv m N K Fs Ss Ys T) (hT : T ≤ 5000000000) (kn : Int) (kd : Option Addr) (nk ck : Nat) (Ks : List Int) (hd : HoldI b wr kd nk Ks) (hc : nk ≤ ck) (mk : Nat) (hmk : min (max kn 0) (((Fs.length - m : Nat) : Int)) = (mk : Int)) :
    Calls Try.prog 12 #[.pointer (some ⟨d, 0, none⟩), .agg #[.int .i64 kn, .slice kd nk ck]] wr fun e w' => e = .returned (.tuple #[]) ∧ (∃ N' K' Gs, N' ≤ 1000000000000 ∧ Fin b d w' N' K' Gs Ss Ys Ks (m + mk) sv yv) ∧ Below b wr w' := by
  have hcnt := h.rel.cnt
  have hle := h.lz.le
  have hnum := h.lz.num
  have hmkl : mk ≤ Fs.length - m := by omega
  refine (restart_many nmF b d N K Fs Ks kd nk ck kn (nmL nmF m (Fs.length - m)) mk (m + mk) (putL (.map []) (nmL nmF 0 (m + mk))) wr h.lz.many h.size h.lz.ns (by rw [nmL_len]; exact hmk) ?_ (by omega) (lasting_of nmF (Fs.length) (nmF_nms _ (by omega)) (m + mk) (by omega)) (fun p hp => ?_) (by rw [nmL_len]; unfold maxLen; omega) (by rw [nmL_len]; omega) hd hc (fun i p hp => ?_)).mono ?_
  · rw [h.lz.dl, nmL_take _ _ _ _ hmkl, ← putL_app]
    have := nmL_add nmF 0 m mk
    rw [Nat.zero_add] at this
    rw [← this]
  · unfold nmL at hp
    simp only [List.mem_map, List.mem_range'_1] at hp
    obtain ⟨i, hi, rfl⟩ := hp
    have := nmF_size i (by omega)
    exact ⟨by unfold maxLen; simp only; omega, by simp only; omega⟩
  · obtain ⟨s, y, hs, hy, hF⟩ := h.rel.fil i p hp
    rw [hF.units (h.lz.many.files i p hp), bytesI_length]
    have := h.rel.small i s hs
    omega
  · rintro e w' ⟨rfl, K', Gs, M, e1, e2, e3, e4, e5, e6, e7, e8⟩
    refine ⟨rfl, ⟨N + mk, K', Gs, by omega, ⟨M, e5, e1, by rw [h.rel.l1]; omega, own_keepC h.rs (Or.inl rfl) e8, own_keepC h.ry (Or.inr rfl) e8, by rw [h.rel.l2, h.rel.l1], fun i s hs => by have := h.rel.small i s hs; omega, fun i p hp => ?_⟩⟩, e7⟩
    obtain ⟨F, hF, g1, g2, g3⟩ := e6 i p hp
    obtain ⟨s, y, hs, hy, hB⟩ := h.rel.fil i _ hF
    refine ⟨s, y, hs, hy, by have := hB.le; rw [bytesI_length] at this; exact this, ?_⟩
    rw [g1, hB.first (h.lz.many.files i _ hF)]
/-- The whole of a statement's state, its lists' heads named. -/
def LstE (w1 : World) (b d : Nat) (wr : World) (sv yv : Value) (m T : Nat) : Prop := ∃ N K Fs Ss Ys, Lst w1 b d wr sv yv m N K Fs Ss Ys T
theorem LstE.low {w1 : World} {b d : Nat} {wr w' : World} {sv yv : Value} {m T : Nat} (h : LstE w1 b d wr sv yv m T) (hb : Below wr.heap.size wr w') : LstE w1 b d w' sv yv m T := by
  obtain ⟨N, K, Fs, Ss, Ys, L⟩ := h
  exact ⟨N, K, Fs, Ss, Ys, L.low hb⟩
set_option maxHeartbeats 8000000 in
theorem lasts_any (files kn : Int) (hf0 : -9223372036854775808 ≤ files) (hf1 : files ≤ 9223372036854775807) (hk0 : -9223372036854775808 ≤ kn) (hk1 : kn ≤ 9223372036854775807) (ad : Option Addr) (n c : Nat) (A : List Ac) (kd : Option Addr) (nk ck : Nat) (Ks : List Int) (w : World) (hA : AcAt w.heap.size w ad n A) (hK : HoldI w.heap.size w kd nk Ks) (hnk : nk ≤ ck) (hnm : (n : Int) ≤ 9223372036854775807) :
    Calls Try.prog 3 #[.int .i64 files, .slice ad n c, .agg #[.int .i64 kn, .slice kd nk ck]] w fun e w' => e = .returned (.bool true) ∧ Below w.heap.size w w' := by
  have AW := awake_any (w.alloc (.cells #[.int .i64 kn, .slice kd nk ck] 25))
  have BA : Below w.heap.size w (w.alloc (.cells #[.int .i64 kn, .slice kd nk ck] 25)) := (Below.refl _ _).alloc (Nat.le_refl _) _
  have X0 : (w.alloc (.cells #[.int .i64 kn, .slice kd nk ck] 25)).heap[w.heap.size]? = some (.cells #[.int .i64 kn, .slice kd nk ck] 25 (0, 0)) := heap_alloc_new _ _
  have z0 : (w.alloc (.cells #[.int .i64 kn, .slice kd nk ck] 25)).heap.size = w.heap.size + 1 := World.size_alloc _ _
  have HX0 : Hid _ := X0
  have Hz0 : Hid _ := z0
  have HBA : Hid _ := BA
  have HA : Hid _ := hA
  have HK : Hid _ := hK
  clear X0 z0 BA hA hK
  go_enter Try.func3, Try.ntmps3
  go_wp2_with (first
    | (go_at_call 4; refine AW.mono ?_; clear AW; rintro e w1 ⟨rfl, b1⟩)
    | (go_at_call 5; refine (new_any w1).mono ?_; rintro e w2 ⟨rfl, D2, b2⟩))
  have L0 := Lst.start D2 b2
  have B1 : Below w.heap.size w w1 := HBA.out.trans (b1.mono (by rw [Hz0.out]; omega))
  have s1 := B1.size
  have X1 : w1.heap[w.heap.size]? = some (.cells #[.int .i64 kn, .slice kd nk ck] 25 (0, 0)) := (b1.block _ (by rw [Hz0.out]; omega)).trans HX0.out
  have HA1 : Hid (AcAt w1.heap.size w1 ad n A) := (HA.out.below B1).mono s1
  have HK1 : Hid (HoldI w1.heap.size w1 kd nk Ks) := ⟨HK.out.len, fun j x hx => by obtain ⟨b, o, e, hc, hl⟩ := (HK.out.below B1).cells j x hx; exact ⟨b, o, e, hc, by omega⟩, HK.out.fit⟩
  have HX1 : Hid _ := X1
  have hx1 : Hid (w.heap.size < w1.heap.size) := (by have := b1.size; rw [Hz0.out] at this; omega : w.heap.size < w1.heap.size)
  have HL0 : Hid _ := L0
  have HB2 : Hid (Below w1.heap.size w1 w2) := b2
  have HB1 : Hid _ := B1
  clear D2 b2 b1 X1 HX0 HBA Hz0 HA HK L0 B1 s1
  generalize hd : w1.heap.size + 3 = d at *
  generalize hbb : w1.heap.size = b at *
  clear hd
  go_loopw [9, 10] (fun s i wr => wr = w2 ∧ ∃ k : Nat, i = .int .i64 (k : Int) ∧ k ≤ n ∧ s = .int .i64 (totA (A.take k) : Int) ∧ totA (A.take k) ≤ 2147483648 + 140737488355328) (fun _ i _ => n - (intOf i).toNat)
  case atStart => exact ⟨rfl, 0, rfl, by omega, rfl, by simp [totA]⟩
  case round =>
    obtain ⟨rfl, k, rfl, hkn, rfl, hk⟩ := hrel
    by_cases hlt : k < n
    · by_cases hsm : totA (A.take k) ≤ 2147483647
      · have hkl : k < A.length := by rw [HA1.out.len]; exact hlt
        obtain ⟨bA, oA, rfl, hbA, hcl⟩ := HA1.out.lies (by omega)
        obtain ⟨x, hx⟩ : ∃ x, A[k]? = some x := ⟨_, List.getElem?_eq_getElem hkl⟩
        obtain ⟨c0, c1, c2⟩ := hcl k _ hx
        have e2 := (HB2.out.cell (p := ⟨bA, oA + k * 3 + 2, none⟩) hbA).trans c2
        have hT := totA_take A k _ hx
        have hle := totA_le A k (by omega)
        have hsz := (HA1.out.fit _ (List.mem_of_getElem? hx)).2.2
        clear c0 c1 c2 hcl hx hkl
        have hzk : (k : Int) < (n : Int) := by omega
        have hzs : (totA (A.take k) : Int) ≤ 2147483647 := by omega
        have hTI : (totA (A.take (k + 1)) : Int) = (totA (A.take k) : Int) + 1 + (x.s.size : Int) := by omega
        have HT : Hid _ := hTI
        have HTN : Hid _ := hT
        clear hT hTI
        have HLE : Hid (k ≤ totA (A.take k)) := hle
        have hk31 : (k : Int) ≤ 2147483647 := by omega
        clear hle
        generalize hg : (totA (A.take k) : Int) = t at *
        have ht0 : 0 ≤ t := by omega
        clear hg
        go_wp2
        go_roundw
        case rel => exact ⟨trivial, k + 1, by go_num, by omega, by rw [HT.out], by rw [HTN.out]; omega⟩
        case measure => simp [intOf]; omega
      · have hzk : (k : Int) < (n : Int) := by omega
        have hzs : ¬ (totA (A.take k) : Int) ≤ 2147483647 := by omega
        have hzs2 : (2147483647 : Int) < (totA (A.take k) : Int) := by omega
        have BB : Below w.heap.size w wr := HB1.out.trans (HB2.out.mono (by have := hx1.out; omega))
        generalize (totA (A.take k) : Int) = t at *
        go_wp2
        go_ret
        exact ⟨rfl, BB⟩
    · obtain rfl : n = k := by omega
      have hAt : A.take n = A := List.take_of_length_le (by rw [HA1.out.len]; exact Nat.le_refl _)
      rw [hAt] at hk ⊢
      have BB : Below w.heap.size w wr := HB1.out.trans (HB2.out.mono (by have := hx1.out; omega))
      have hzk : ¬ (n : Int) < (n : Int) := by omega
      by_cases hsm : totA A ≤ 2147483647
      · have hzs : (totA A : Int) ≤ 2147483647 := by omega
        have hzs2 : ¬ (2147483647 : Int) < (totA A : Int) := by omega
        obtain ⟨tA, htA⟩ : ∃ t, totA A = t := ⟨_, rfl⟩
        have HTA : Hid (totA A = tA) := htA
        rw [htA] at hzs hzs2 hsm ⊢
        clear htA hAt hk hlt hkn BB
        have hn31 : n ≤ 2147483647 := by have := totA_le A n (by rw [HA1.out.len]; exact Nat.le_refl _); have := totA_mono A n; have := HTA.out; omega
        go_wp2
        clear hzs hzs2 hzk
        go_loopw [11, 12, 13, 14] (fun sv yv mv i wr => ∃ k m : Nat, i = .int .i64 (k : Int) ∧ mv = .int .i64 (m : Int) ∧ k ≤ n ∧ (∃ a l c, sv = .slice a l c) ∧ (∃ a l c, yv = .slice a l c) ∧ LstE w1 b d wr sv yv m (2 * totA (A.take k))) (fun _ _ _ i _ => n - (intOf i).toNat)
        case atStart => exact ⟨0, 0, rfl, rfl, by omega, ⟨_, _, _, rfl⟩, ⟨_, _, _, rfl⟩, _, _, _, _, _, HL0.out⟩
        case round =>
          obtain ⟨k, m, rfl, rfl, hkn, ⟨sa, sl, sc, rfl⟩, ⟨ya, yl, yc, rfl⟩, N, K, Fs, Ss, Ys, L⟩ := hrel
          by_cases hlt : k < n
          · obtain ⟨x, hx⟩ : ∃ x, A[k]? = some x := ⟨_, List.getElem?_eq_getElem (by rw [HA1.out.len]; exact hlt)⟩
            obtain ⟨bA, oA, rfl, hbA, hcl⟩ := (HA1.out.below L.below).lies (by omega)
            obtain ⟨c0, c1, c2⟩ := hcl k x hx
            obtain ⟨⟨fx0, fx1⟩, ⟨kx0, kx1⟩, hsz⟩ := HA1.out.fit x (List.mem_of_getElem? hx)
            have HXK : Hid (A[k]? = some x) := hx
            have hT : Hid (totA (A.take (k + 1)) = totA (A.take k) + (1 + x.s.size) ∧ totA (A.take (k + 1)) ≤ 2147483647) := ⟨totA_take A k x hx, by have := totA_mono A (k + 1); have := HTA.out; omega⟩
            have PK1 := fun W => pick_any files 1000000 hf0 hf1 (by omega) (by omega) W
            have p0 := pick_lo files 1000000 (by omega)
            have p1 := pick_hi files 1000000 (by omega)
            generalize pickI files 1000000 = q at PK1 p0 p1
            have PK2 := fun W => pick_any x.f (1 + q) fx0 fx1 (by omega) (by omega) W
            have r0 := pick_lo x.f (1 + q) (by omega)
            have r1 := pick_hi x.f (1 + q) (by omega)
            generalize pickI x.f (1 + q) = xr at PK2 r0 r1
            obtain ⟨xn, rfl⟩ : ∃ xn : Nat, xr = (xn : Int) := ⟨xr.toNat, by omega⟩
            have PK3 := fun W => pick_any x.k 4 kx0 kx1 (by omega) (by omega) W
            have v0 := pick_lo x.k 4 (by omega)
            have v1 := pick_hi x.k 4 (by omega)
            generalize pickI x.k 4 = kk at PK3 v0 v1
            have hln : Hid (sl = Fs.length ∧ yl = Fs.length ∧ sl ≤ sc ∧ yl ≤ yc) := ⟨by rw [(own_len L.rs).1, L.rel.l1], by rw [(own_len L.ry).1, L.rel.l2], by have := own_len L.rs; omega, by have := own_len L.ry; omega⟩
            have hcnt : Hid (Fs.length ≤ 2 * totA (A.take k)) := L.rel.cnt
            have hcntI : (sl : Int) ≤ 4294967296 := by have := hcnt.out; have := hT.out; have := hln.out; omega
            have HL : Hid _ := L
            have hkz : (k : Int) < (n : Int) := by omega
            have hq : IntKind.i64.wrap (1 + q) = 1 + q := by simp [IntKind.wrap, IntKind.bits, IntKind.signed]; omega
            clear L hcl hx
            go_upto_region 18 with fail
            go_quiet (first | (go_at_call 6; (with_reducible refine Calls.quiet_of_same (PK1 _))) | (go_at_call 6; (with_reducible refine Calls.quiet_of_same (PK2 _))))
            go_upto_if 73 with fail
            obtain ⟨w6, hw6⟩ : ∃ W, wr.drewN nq = W := ⟨_, rfl⟩
            have B6 : Below wr.heap.size wr w6 := by rw [← hw6]; exact below_drewN (Below.refl _ _) nq
            have HL6 : Hid (Lst w1 b d w6 (.slice sa sl sc) (.slice ya yl yc) m N K Fs Ss Ys (2 * totA (A.take k))) := HL.out.low B6
            rw [hw6]
            clear hw6 B6 HL PK1 PK2 c0 c1 c2 r0 r1 p0 p1 hq
            go_cut [11, 12, 15, 16] from 55 to 140 (fun s11 s12 s15 s16 wx => s16 = .int .i64 0 ∧ ∃ (xx ga la ca gy ly cy : Nat) (N : Nat) (K : Dk) (Fs : List (Nat × Fl)) (Ss : List ByteArray) (Ys : List Nat), s11 = .slice (some ⟨ga, 0, none⟩) la ca ∧ s12 = .slice (some ⟨gy, 0, none⟩) ly cy ∧ s15 = .int .i64 (xx : Int) ∧ xx < Fs.length ∧ Lst w1 b d wx s11 s12 m N K Fs Ss Ys (2 * totA (A.take k) + 1))
            case first =>
              by_cases hxs : xn < sl
              · have hz : ¬ ((sl : Int) ≤ (xn : Int)) := by omega
                have L6 := HL6.out
                obtain ⟨ga, rfl, _⟩ := own_cell L6.rs (by have := own_len L6.rs; omega)
                obtain ⟨gy, rfl, _⟩ := own_cell L6.ry (by have := own_len L6.ry; have := hln.out; omega)
                have HL7 : Hid _ := L6
                clear L6
                go_wp2
                go_meet
                case rel => exact ⟨rfl, xn, ga, sl, sc, gy, yl, yc, N, K, Fs, Ss, Ys, rfl, rfl, rfl, by have := hln.out; omega, ⟨HL7.out.lz, HL7.out.rs, HL7.out.ry, HL7.out.rel.mono (by omega), HL7.out.below, HL7.out.hb⟩⟩
              · have hz : (sl : Int) ≤ (xn : Int) := by omega
                have LT := fun W => letters_nm sl (by omega) W
                have CR := fun W (bW : Below w6.heap.size w6 W) => (HL6.out.low bW).lz.create (HL6.out.low bW).size (by have := hln.out; omega)
                rw [← hln.out.1] at CR
                have CL : ∀ w7 w8 N8 K8 f8, Below w6.heap.size w6 w7 → KeepO w7 w8 → Below b w7 w8 → Lz b w8 d N8 K8 (Fs ++ [(f8, noF)]) m → Lz b w8 d N8 K8 (Fs ++ [(f8, noF)]) m ∧ RowS b w8 (.slice sa sl sc) Ss ∧ RowY b w8 (.slice ya yl yc) Ys ∧ Below b w1 w8 ∧ b ≤ w8.heap.size := fun w7 w8 N8 K8 f8 b7 kp bb z => by
                  obtain ⟨q1, q2, q3, q4⟩ := (HL6.out.low b7).call kp bb z
                  exact ⟨q1, q2, q3, q4, Nat.le_trans HL6.out.hb q4.size⟩
                have HCL : Hid _ := CL
                have HRE : Hid (∀ f8, Rel (Fs ++ [(f8, noF)]) (Ss ++ [⟨#[]⟩]) (Ys ++ [0]) (2 * totA (A.take k) + 1)) := fun f8 => HL6.out.rel.new f8
                have HSL : Hid (Ss.length = sl ∧ Ys.length = sl ∧ Fs.length = sl ∧ b ≤ w1.heap.size) := ⟨by rw [HL6.out.rel.l1]; exact hln.out.1.symm, by rw [HL6.out.rel.l2]; exact hln.out.1.symm, hln.out.1.symm, HL6.out.hb⟩
                obtain ⟨i0, hi, hz0, hz1, hz2⟩ := info_parts Try.info9
                obtain ⟨j0, hj, hj0, hj1, hj2⟩ := info_parts Try.info3
                have sm1 : Ss.length + 1 ≤ maxLen := by have := HSL.out; unfold maxLen; omega
                have sm2 : (Ss.length + 1) * 16 ≤ 140737488355328 := by have := HSL.out; omega
                have sm3 : Ys.length + 1 ≤ maxLen := by have := HSL.out; unfold maxLen; omega
                have sm4 : (Ys.length + 1) * 8 ≤ 140737488355328 := by have := HSL.out; omega
                clear CL HL6 hxs
                go_wp2_with (first
                  | (go_at_call 8; refine (LT _).mono ?_; clear LT; rintro e w7 ⟨rfl, b7⟩)
                  | (go_at_call 7; refine (CR _ b7).mono ?_; clear CR; rintro e w8 ⟨rfl, ⟨N8, K8, f8, z8⟩, bb8, kp8⟩; obtain ⟨z8, rs8, ry8, B8, sz8⟩ := HCL.out _ _ _ _ _ b7 kp8 bb8 z8; clear HCL kp8 bb8 b7; have HP8 : Hid True := trivial; have R8 := own_below rs8 ((Below.refl _ _).alloc (Nat.le_refl _) (.cells #[.string ⟨#[]⟩] 9)))
                  | (at_builtin; clear HP8; refine wpList_app _ rfl _ _ 31 31 rfl b 9 i0 (.string ⟨#[]⟩) 16 Try.underlying31 hi hz0 hz1 hz2 rfl (.slice sa sl sc) Ss.length (Ss.map Value.string) rfl R8 _ 1 [.string ⟨#[]⟩] rfl (src_one Try.underlying31 _ _ _ rfl) sm1 sm2 (by rw [World.size_alloc]; omega) ?_; intro v9 w9 o9 g9 m9; clear m9 R8; obtain ⟨z9, rs9, ry9, B9⟩ := app_seen z8 rs8 ry8 sz8 o9 g9; obtain ⟨a9, l9, c9, rfl⟩ := row_shape rs9; obtain ⟨g9', e9, _⟩ := own_cell rs9 (by simp); subst e9; have sz9 : b ≤ w9.heap.size := Nat.le_trans sz8 B9.size; have R9 := own_below ry9 ((Below.refl _ _).alloc (Nat.le_refl _) (.cells #[.int .i64 0] 3)); clear o9 g9 z8 rs8 ry8)
                  | (at_builtin; refine wpList_app _ rfl _ _ 23 23 rfl b 3 j0 (.int .i64 0) 8 Try.underlying23 hj hj0 hj1 hj2 rfl (.slice ya yl yc) Ys.length (Ys.map yV) rfl R9 _ 1 [.int .i64 0] rfl (src_one Try.underlying23 _ _ _ rfl) sm3 sm4 (by rw [World.size_alloc]; omega) ?_; intro v10 w10 o10 g10 m10; clear m10 R9; obtain ⟨z10, rs10, ry10, B10⟩ := app_sync z9 rs9 ry9 sz9 o10 g10; obtain ⟨a10, l10, c10, rfl⟩ := row_shape ry10; obtain ⟨g10', e10, _⟩ := own_cell ry10 (by simp); subst e10; clear o10 g10 z9 rs9 ry9))
                go_meet
                case rel => exact ⟨rfl, sl, g9', l9, c9, g10', l10, c10, N8, K8, _, _, _, rfl, rfl, rfl, by have := HSL.out; simp; omega, ⟨z10, rs10, ry10, HRE.out _, B8.trans (B9.trans B10), HSL.out.2.2.2⟩⟩
            case rest =>
              obtain ⟨rfl, xx, ga, la, ca, gy, ly, cy, N2, K2, Fs2, Ss2, Ys2, rfl, rfl, rfl, hxx, L2⟩ := hcut
              obtain ⟨p, hp⟩ : ∃ p, Fs2[xx]? = some p := ⟨_, List.getElem?_eq_getElem hxx⟩
              obtain ⟨f, F⟩ := p
              obtain ⟨s, y, hs, hy, hF⟩ := L2.rel.fil xx _ hp
              have hfew := L2.rel.few xx _ hp
              have hsmall := L2.rel.small xx _ hs
              have hcnt2 := L2.rel.cnt
              have ela : la = Fs2.length := by rw [(own_len L2.rs).1, L2.rel.l1]
              have ely : ly = Fs2.length := by rw [(own_len L2.ry).1, L2.rel.l2]
              have hlc : la ≤ ca ∧ ly ≤ cy := by have := own_len L2.rs; have := own_len L2.ry; omega
              have LT := fun W => letters_nm xx (by have := hT.out; omega) W
              have hxl : (xx : Int) < (la : Int) := by omega
              have hxl2 : (xx : Int) < (ly : Int) := by omega
              have HFL : Hid (Fs2.length ≤ 2 * totA (A.take k) + 1 ∧ F.S.length ≤ 2 * totA (A.take k) + 1 ∧ s.size ≤ 2 * totA (A.take k) + 1 ∧ la = Fs2.length ∧ ly = Fs2.length) := ⟨hcnt2, hfew, hsmall, ela, ely⟩
              have hszI : (s.size : Int) ≤ 4294967296 := by have := hT.out; omega
              have hxI : (xx : Int) ≤ 4294967296 := by have := hT.out; omega
              have CS : ∀ W N' K' Gs m', Lz b W d N' K' Gs m' → RowS b W (.slice (some ⟨ga, 0, none⟩) la ca) Ss2 → RowY b W (.slice (some ⟨gy, 0, none⟩) ly cy) Ys2 → W.cell? ⟨ga, xx, none⟩ = some (.string s) ∧ W.cell? ⟨gy, xx, none⟩ = some (.int .i64 (y : Int)) ∧ W.frozen? ⟨gy, xx, none⟩ = false ∧ W.frozen? ⟨ga, xx, none⟩ = false := fun W N' K' Gs m' _ rs ry => by
                obtain ⟨g1, e1, h1⟩ := own_cell rs (by have := (own_len rs).1; omega)
                obtain ⟨g2, e2, h2⟩ := own_cell ry (by have := (own_len ry).1; omega)
                simp at e1 e2
                subst e1
                subst e2
                obtain ⟨cs1, t1⟩ := own_type rs rfl
                obtain ⟨cs2, t2⟩ := own_type ry rfl
                exact ⟨h1 xx _ (by simp [hs]), h2 xx _ (by simp [hy, yV]), free3 t2 xx, free3 t1 xx⟩
              have c1 : wc.cell? ⟨bA, oA + k * 3 + 1, none⟩ = some (.int .i64 x.k) := by
                obtain ⟨bA', oA', e, hbA', hcl⟩ := (HA1.out.below L2.below).lies (by omega)
                simp at e
                obtain ⟨rfl, rfl⟩ := e
                exact (hcl k x HXK.out).2.1
              have HCS : Hid _ := CS
              have HF : Hid _ := hF
              have HP : Hid _ := hp
              have HS : Hid _ := hs
              have HY : Hid _ := hy
              have HL2 : Hid _ := L2
              clear L2 hs hy hF hp CS hfew hsmall hcnt2 ela ely
              generalize wc = w7 at *
              have hk31 : (k : Int) ≤ 2147483647 := by omega
              by_cases hk2 : kk = 2
              · subst hk2
                have SY := fun W (bW : Below w7.heap.size w7 W) => (HL2.out.low bW).lz.sync (HL2.out.low bW).size HP.out HF.out (by rw [bytesI_length]; have := HFL.out; have := hT.out; omega)
                have CA : ∀ w8 w9 G, Below w7.heap.size w7 w8 → KeepO w8 w9 → Below b w8 w9 → Lz b w9 d N2 K2 (Fs2.set xx (f, G)) m → FilB G (bytesI s) (bytesI s).length → G.S.length ≤ F.S.length + 1 → (w9.cell? ⟨ga, xx, none⟩ = some (.string s) ∧ w9.cell? ⟨gy, xx, none⟩ = some (.int .i64 (y : Int)) ∧ w9.frozen? ⟨gy, xx, none⟩ = false ∧ w9.frozen? ⟨ga, xx, none⟩ = false) ∧ LstE w1 b d (w9.setCell ⟨gy, xx, none⟩ (.int .i64 (s.size : Int))) (.slice (some ⟨ga, 0, none⟩) la ca) (.slice (some ⟨gy, 0, none⟩) ly cy) m (2 * totA (A.take (k + 1))) := fun w8 w9 G b8 kp bb z hG hGs => by
                  obtain ⟨q1, q2, q3, q4⟩ := (HL2.out.low b8).call kp bb z
                  obtain ⟨t1, t2, t3, t4⟩ := set_sync q1 q2 q3 (Nat.le_trans HL2.out.hb q4.size) xx s.size
                  refine ⟨HCS.out _ _ _ _ _ q1 q2 q3, _, _, _, _, _, t1, t2, t3, ?_, q4.trans t4, HL2.out.hb⟩
                  rw [bytesI_length] at hG
                  have := HL2.out.rel.set HP.out s s.size (2 * totA (A.take (k + 1))) hG hGs (by have := HFL.out; have := hT.out; omega) (by have := hT.out; omega)
                  rw [set_same HS.out] at this
                  exact this
                have HCA : Hid _ := CA
                clear CA
                go_wp2_with (first
                  | (go_at_call 6; refine (PK3 _).mono ?_; clear PK3; rintro e w' ⟨rfl, hw⟩; obtain rfl := hw.symm)
                  | (go_at_call 8; refine (LT _).mono ?_; clear LT; rintro e w8 ⟨rfl, b8⟩)
                  | (go_at_call 9; refine (SY _ b8).mono ?_; clear SY; rintro e w9 ⟨rfl, ⟨G, z9, hG, hGs⟩, bb9, kp9⟩; obtain ⟨⟨y1, y2, y3, y4⟩, LE⟩ := HCA.out _ _ _ b8 kp9 bb9 z9 hG hGs; clear HCA z9 hG hGs bb9 kp9))
                go_roundw
                case rel => exact ⟨k + 1, m, by go_num, rfl, by omega, ⟨_, _, _, rfl⟩, ⟨_, _, _, rfl⟩, LE⟩
                case measure => simp [intOf]; omega
              · by_cases hk3 : kk = 3
                · subst hk3
                  have SN := HL2.out.lz.names HL2.out.size (by have := HFL.out; have := hT.out; omega)
                  have CA : ∀ w9 N' K', KeepO w7 w9 → Below b w7 w9 → Lz b w9 d N' K' Fs2 Fs2.length → LstE w1 b d w9 (.slice (some ⟨ga, 0, none⟩) la ca) (.slice (some ⟨gy, 0, none⟩) ly cy) la (2 * totA (A.take (k + 1))) := fun w9 N' K' kp bb z => by
                    obtain ⟨q1, q2, q3, q4⟩ := HL2.out.call kp bb z
                    rw [← HFL.out.2.2.2.1] at q1
                    exact ⟨_, _, _, _, _, q1, q2, q3, HL2.out.rel.mono (by have := hT.out; omega), q4, HL2.out.hb⟩
                  have HCA : Hid _ := CA
                  clear CA
                  go_wp2_with (first
                    | (go_at_call 6; refine (PK3 _).mono ?_; clear PK3; rintro e w' ⟨rfl, hw⟩; obtain rfl := hw.symm)
                    | (go_at_call 10; refine SN.mono ?_; clear SN; rintro e w9 ⟨rfl, ⟨N9, K9, z9⟩, bb9, kp9⟩; have LE := HCA.out _ _ _ kp9 bb9 z9; clear HCA z9 bb9 kp9))
                  go_roundw
                  case rel => exact ⟨k + 1, la, by go_num, rfl, by omega, ⟨_, _, _, rfl⟩, ⟨_, _, _, rfl⟩, LE⟩
                  case measure => simp [intOf]; omega
                · have d2 : (kk == 2) = false := by simp [hk2]
                  have d3 : (kk == 3) = false := by simp [hk3]
                  have d2' : decide (kk = 2) = false := by simp [hk2]
                  have d3' : decide (kk = 3) = false := by simp [hk3]
                  obtain ⟨cp, cw, hcw⟩ := conv_any x.s
                  have CV := fun W => (hcw W).1
                  have HCW : Hid _ := fun W => (hcw W).2
                  have KC2 : ∀ W, Below w7.heap.size w7 W → W.cell? ⟨bA, oA + k * 3 + 2, none⟩ = some (.string x.s) := fun W bW => by
                    obtain ⟨bA', oA', e, hbA', hcl⟩ := (HA1.out.below (HL2.out.low bW).below).lies (by omega)
                    simp at e
                    obtain ⟨rfl, rfl⟩ := e
                    exact (hcl k x HXK.out).2.2
                  have HOA : Hid (∀ w8, Below w7.drew.heap.size w7.drew w8 → (Below w7.heap.size w7 (cw w8) ∧ Holds (cw w8) (some ⟨w8.heap.size, 0, none⟩) x.s.size (bytesI x.s)) ∧ w8.cell? ⟨bA, oA + k * 3 + 2, none⟩ = some (.string x.s)) := fun w8 b8 => by
                    have b8' : Below w7.heap.size w7 w8 := (Below.refl _ _).drew.trans b8
                    exact ⟨⟨b8'.trans ((hcw w8).2.2.1.mono b8'.size), (hcw w8).2.1⟩, KC2 w8 b8'⟩
                  have HOC : Hid (∀ w8, Below (cw w7.drew).heap.size (cw w7.drew) w8 → Below w7.heap.size w7 w8 ∧ Holds w8 (some ⟨w7.heap.size, 0, none⟩) x.s.size (bytesI x.s)) := fun w8 b8 => by
                    have b7 : Below w7.heap.size w7 (cw w7.drew) := (Below.refl _ _).drew.trans (hcw w7.drew).2.2.1
                    exact ⟨b7.trans (b8.mono b7.size), (hcw w7.drew).2.1.below b8⟩
                  have HLE : Hid (∀ W, x.s.size ≤ cp W) := fun W => (hcw W).2.2.2
                  have k7 := KC2 w7.drew (Below.refl _ _).drew
                  have AP : ∀ W g cp', Below w7.heap.size w7 W → Holds W (some ⟨g, 0, none⟩) x.s.size (bytesI x.s) → x.s.size ≤ cp' → Calls Try.prog 11 #[.pointer (some ⟨d, 0, none⟩), .string (nmF xx), .slice (some ⟨g, 0, none⟩) x.s.size cp'] W fun e w9 => e = .returned (.int .i64 0) ∧ ∃ G, Lz b w9 d N2 K2 (Fs2.set xx (f, G)) m ∧ RowS b w9 (.slice (some ⟨ga, 0, none⟩) la ca) Ss2 ∧ RowY b w9 (.slice (some ⟨gy, 0, none⟩) ly cy) Ys2 ∧ FilB G (bytesI (s ++ x.s)) y ∧ G.S.length ≤ F.S.length + 1 ∧ Below b w1 w9 := fun W g cp' bW hH hle => by
                    refine ((HL2.out.low bW).lz.append (HL2.out.low bW).size HP.out _ _ _ _ hH hle (by rw [HF.out.bytes, bytesI_length]; have := HFL.out; have := hT.out; omega) (by have := HFL.out; have := hT.out; omega) HF.out).mono ?_
                    rintro e w9 ⟨rfl, ⟨G, z9, hG, hGs⟩, bb9, kp9⟩
                    obtain ⟨q1, q2, q3, q4⟩ := (HL2.out.low bW).call kp9 bb9 z9
                    exact ⟨rfl, G, q1, q2, q3, by rw [bytesI_app]; exact hG, hGs, q4⟩
                  have CA : ∀ w9, (∃ G, Lz b w9 d N2 K2 (Fs2.set xx (f, G)) m ∧ RowS b w9 (.slice (some ⟨ga, 0, none⟩) la ca) Ss2 ∧ RowY b w9 (.slice (some ⟨gy, 0, none⟩) ly cy) Ys2 ∧ FilB G (bytesI (s ++ x.s)) y ∧ G.S.length ≤ F.S.length + 1 ∧ Below b w1 w9) → (w9.cell? ⟨ga, xx, none⟩ = some (.string s) ∧ w9.frozen? ⟨ga, xx, none⟩ = false ∧ w9.cell? ⟨bA, oA + k * 3 + 2, none⟩ = some (.string x.s)) ∧ LstE w1 b d (w9.setCell ⟨ga, xx, none⟩ (.string (s ++ x.s))) (.slice (some ⟨ga, 0, none⟩) la ca) (.slice (some ⟨gy, 0, none⟩) ly cy) m (2 * totA (A.take (k + 1))) := by
                    rintro w9 ⟨G, q1, q2, q3, hG, hGs, q4⟩
                    obtain ⟨u1, u2, u3, u4⟩ := HCS.out _ _ _ _ _ q1 q2 q3
                    obtain ⟨t1, t2, t3, t4⟩ := set_seen q1 q2 q3 (Nat.le_trans HL2.out.hb q4.size) xx (s ++ x.s)
                    obtain ⟨bA', oA', e, hbA', hcl⟩ := (HA1.out.below q4).lies (by omega)
                    simp at e
                    obtain ⟨rfl, rfl⟩ := e
                    refine ⟨⟨u1, u4, (hcl k x HXK.out).2.2⟩, _, _, _, _, _, t1, t2, t3, ?_, q4.trans t4, HL2.out.hb⟩
                    have := HL2.out.rel.set HP.out (s ++ x.s) y (2 * totA (A.take (k + 1))) hG hGs (by rw [ByteArray.size_append]; have := HFL.out; have := hT.out; omega) (by have := hT.out; omega)
                    rw [set_same HY.out] at this
                    exact this
                  have HCA : Hid _ := CA
                  have hcc : ¬ (maxLen < s.size + x.s.size) := by unfold maxLen; have := HFL.out; have := hT.out; omega
                  clear hcw KC2 CA
                  go_upto_region 27 with (go_at_call 6; refine (PK3 _).mono ?_; clear PK3; rintro e w' ⟨rfl, hw⟩; obtain rfl := hw.symm)
                  go_cut [17] from 55 to 140 (fun s17 wx => s17 = .int .i64 0 ∧ ∃ G, Lz b wx d N2 K2 (Fs2.set xx (f, G)) m ∧ RowS b wx (.slice (some ⟨ga, 0, none⟩) la ca) Ss2 ∧ RowY b wx (.slice (some ⟨gy, 0, none⟩) ly cy) Ys2 ∧ FilB G (bytesI (s ++ x.s)) y ∧ G.S.length ≤ F.S.length + 1 ∧ Below b w1 wx)
                  case first =>
                    go_region_with (first
                      | (go_at_call 8; refine (LT _).mono ?_; clear LT; rintro e w8 ⟨rfl, b8⟩; first | (have b8' : Below w7.drew.heap.size w7.drew w8 := (by with_reducible exact b8); obtain ⟨BW8, k8⟩ := HOA.out w8 b8'; clear HOC b8 b8') | (have b8' : Below (cw w7.drew).heap.size (cw w7.drew) w8 := (by with_reducible exact b8); have BW8 := HOC.out w8 b8'; clear HOA b8 b8'))
                      | (go_at_call 11; (with_reducible refine (AP _ _ _ BW8.1 BW8.2 (HLE.out _)).mono ?_); clear AP; rintro e w9 ⟨rfl, q9⟩))
                    all_goals (go_wp2; go_meet; exact ⟨rfl, q9⟩)
                  case rest =>
                    obtain ⟨rfl, q9⟩ := hcut
                    generalize wc = w9 at *
                    obtain ⟨⟨y1, y2, y3⟩, LE⟩ := HCA.out _ q9
                    clear HCA q9 AP HOA HOC HLE k7 CV LT
                    go_upto_region 28 with fail
                    go_region
                    go_wp2
                    go_roundw
                    case rel => exact ⟨k + 1, m, by go_num, rfl, by omega, ⟨_, _, _, rfl⟩, ⟨_, _, _, rfl⟩, LE.low (Below.refl _ _).drew⟩
                    case measure => simp [intOf]; omega
          · obtain rfl : n = k := by omega
            have hTA := totA_mono A n
            have hTB := HTA.out
            have hle := L.lz.le
            have hcnt := L.rel.cnt
            have hmx : ∃ mk : Nat, min (max kn 0) (((Fs.length - m : Nat) : Int)) = (mk : Int) := ⟨(min (max kn 0) (((Fs.length - m : Nat) : Int))).toNat, by omega⟩
            obtain ⟨mk, hmk⟩ := hmx
            have esl : sl = Fs.length := by rw [(own_len L.rs).1, L.rel.l1]
            have eyl : yl = Fs.length := by rw [(own_len L.ry).1, L.rel.l2]
            have RS := L.restart (by omega) kn kd nk ck Ks (HK1.out.below L.below) hnk mk hmk
            have bx := (L.below.block w.heap.size hx1.out).trans HX1.out
            have j0 := blk_cell bx 0 (v := .int .i64 kn) rfl
            have j1 := blk_cell bx 1 (v := .slice kd nk ck) rfl
            have BW1 : Hid (∀ w', Below b wr w' → Below b w1 w') := fun w' b' => L.below.trans b'
            have m1 : max 0 (min kn ((sl : Int) - (m : Int))) = (mk : Int) := by omega
            have m2 : (m : Int) + (mk : Int) ≤ (sl : Int) := by omega
            have m3 : (sl : Int) ≤ 4294967296 := by omega
            have m4 : (m : Int) ≤ (sl : Int) := by omega
            have m5 : Hid (sl = yl) := (by rw [esl, eyl] : sl = yl)
            have ex : ∀ w3, Below b wr w3 → w3.cell? ⟨w.heap.size, 0, none⟩ = some (.int .i64 kn) ∧ w3.cell? ⟨w.heap.size, 1, none⟩ = some (.slice kd nk ck) := fun w3 b3 => by
              have bx3 := (b3.block w.heap.size hx1.out).trans bx
              exact ⟨blk_cell bx3 0 rfl, blk_cell bx3 1 rfl⟩
            have HEX : Hid _ := ex
            clear ex L hmk esl eyl hle hcnt hTA hTB bx
            go_wp2_with (first
              | (go_at_call 12; refine RS.mono ?_; clear RS; rintro e w3 ⟨rfl, ⟨N3, K3, Gs, hN3, FN⟩, b3⟩; obtain ⟨x0, x1⟩ := HEX.out w3 b3; have hdn : Maps.size K3.DN = m + mk := (by rw [FN.dn]; exact (putL_has nmF (m + mk) (nmF_nms _ (by omega)) (m + mk) (Nat.le_refl _)).2.2.2); have NA := names_any b d N3 K3 w3 FN.many.disk FN.many.on hN3; rw [hdn] at NA; clear hdn)
              | (go_at_call 13; refine NA.mono ?_; clear NA; rintro e w4 ⟨a4, c4, ss4, rfl, hp4, ho4, b4⟩; clear hp4 ho4))
            have F4 := FN.below b4
            have hrl : Hid (sl = Ss.length) := (own_len F4.rs).1
            have HF4 : Hid _ := F4
            have HB4 : Hid (Below b w1 w4) := BW1.out _ (b3.trans (b4.mono (by have := FN.many.disk.low.1; have := lt_of_block FN.many.disk.block; omega)))
            have HBr : Hid (Below b wr w4) := b3.trans (b4.mono (by have := FN.many.disk.low.1; have := lt_of_block FN.many.disk.block; omega))
            have hsb : Hid (b ≤ w4.heap.size) := (by have := F4.many.disk.low.1; have := lt_of_block F4.many.disk.block; omega : b ≤ w4.heap.size)
            clear FN b3 b4 j0 j1 x0 x1 F4 HL0
            go_loopw [20] (fun i wx => ∃ j : Nat, i = .int .i64 (j : Int) ∧ j ≤ sl ∧ Below w4.heap.size w4 wx) (fun i _ => sl - (intOf i).toNat)
            case atStart => exact ⟨0, rfl, by omega, Below.refl _ _⟩
            case round =>
              obtain ⟨j, rfl, hj, B5⟩ := hrel
              by_cases hjl : j < sl
              · have hjI : (j : Int) < (sl : Int) := by omega
                have FX := HF4.out.below B5
                have LT := fun W => letters_nm j (by omega) W
                by_cases hjm : j < m + mk
                · obtain ⟨g, G, s, y, lf, O, hs, hy, hys, hlf, hGB, hGl⟩ := FX.at j hjm
                  have hz : ¬ ((m : Int) + (mk : Int) ≤ (j : Int)) := by omega
                  have hsm5 := FX.small j s hs
                  obtain ⟨ga, rfl, _⟩ := own_cell FX.rs (by have := (own_len FX.rs).1; omega)
                  obtain ⟨gy, rfl, _⟩ := own_cell FX.ry (by have := (own_len FX.ry).1; have := m5.out; omega)
                  have CS : ∀ W, Below wr.heap.size wr W → W.cell? ⟨ga, j, none⟩ = some (.string s) ∧ W.cell? ⟨gy, j, none⟩ = some (.int .i64 (y : Int)) ∧ (W.cell? ⟨w.heap.size, 0, none⟩ = some (.int .i64 kn) ∧ W.cell? ⟨w.heap.size, 1, none⟩ = some (.slice kd nk ck)) ∧ HoldI b W kd nk Ks := fun W bW => by
                    have F' := FX.below bW
                    obtain ⟨g1, e1, h1⟩ := own_cell F'.rs (by have := (own_len F'.rs).1; omega)
                    obtain ⟨g2, e2, h2⟩ := own_cell F'.ry (by have := (own_len F'.ry).1; have := m5.out; omega)
                    simp at e1 e2
                    subst e1
                    subst e2
                    have b6 : Below b w4 W := (B5.mono hsb.out).trans (bW.mono (Nat.le_trans hsb.out B5.size))
                    exact ⟨h1 j _ (by simp [hs]), h2 j _ (by simp [hy, yV]), HEX.out _ (HBr.out.trans b6), HK1.out.below (HB4.out.trans b6)⟩
                  have SZ := fun W (bW : Below wr.heap.size wr W) => sizeN b d N3 K3 (nmF j) j g G W (O.below bW)
                  have RD := fun W (bW : Below wr.heap.size wr W) => readL b d N3 K3 (nmF j) j g G lf W (O.below bW) (by omega) (by omega)
                  rw [hGl] at SZ
                  rw [show G.B.take lf = (bytesI s).take lf by rw [hGB, List.take_take, Nat.min_self]] at RD
                  have HRD : Hid _ := RD
                  have HCS : Hid _ := CS
                  have HLF : Hid _ := hlf
                  have hlI : (lf : Int) ≤ (s.size : Int) := by omega
                  have hyI : (y : Int) ≤ (s.size : Int) := by omega
                  have hsI : (s.size : Int) ≤ 5000000000 := by omega
                  have hl0 : (0 : Int) ≤ (lf : Int) := by omega
                  have LT2 := LT
                  have hyl : (j : Int) < (yl : Int) := by have := m5.out; omega
                  clear FX O hs hy hGB hGl hlf CS RD
                  go_upto_if 193 with (first
                    | (go_at_call 8; refine (LT _).mono ?_; clear LT; rintro e w6 ⟨rfl, b6⟩; obtain ⟨y1, y2, ⟨y3, y4⟩, HI⟩ := HCS.out _ b6)
                    | (go_at_call 14; refine (SZ _ b6).mono ?_; clear SZ; rintro e w7 ⟨rfl, hw⟩; obtain rfl := hw.symm))
                  go_cut [23] from 167 to 242 (fun s23 wx => s23 = .int .i64 (lf : Int) ∧ Below wr.heap.size wr wx)
                  case first =>
                    by_cases hjk : j < nk
                    · obtain ⟨x0, hx0⟩ : ∃ x, Ks[j]? = some x := ⟨_, List.getElem?_eq_getElem (by rw [HI.len]; exact hjk)⟩
                      obtain ⟨bk, ok, rfl, hck, hbk⟩ := HI.cells j x0 hx0
                      have hun : unitK Ks j = x0.toNat := by unfold unitK; rw [List.getD_eq_getElem?_getD, hx0]; rfl
                      have hlf2 := HLF.out
                      rw [hun] at hlf2
                      have t1 : max 0 (min x0 ((s.size : Int) - (y : Int))) = (lf : Int) - (y : Int) := by omega
                      have hjkI : (j : Int) < (nk : Int) := by omega
                      have hjk0 : (0 : Int) ≤ (j : Int) := by omega
                      have hw1 : IntKind.i64.wrap ((s.size : Int) - (y : Int)) = (s.size : Int) - (y : Int) := by rw [IntKind.wrap_i64]; omega
                      have hw2 : IntKind.i64.wrap ((y : Int) + ((lf : Int) - (y : Int))) = (lf : Int) := by rw [IntKind.wrap_i64]; omega
                      clear hun hlf2 HI hx0 hbk hjk
                      go_wp2
                      go_region
                      go_wp2
                      go_meet
                      case rel => exact ⟨by go_num, by first | exact b6 | exact b6.drew⟩
                    · have hjkI : ¬ (j : Int) < (nk : Int) := by omega
                      have hun : unitK Ks j = 0 := by unfold unitK; rw [List.getD_eq_getElem?_getD, List.getElem?_eq_none (by rw [HI.len]; omega)]; rfl
                      have hlf2 := HLF.out
                      rw [hun] at hlf2
                      obtain rfl : lf = y := by omega
                      clear hun hlf2 HI hjk
                      go_wp2
                      go_meet
                      case rel => exact ⟨rfl, b6⟩
                  case rest =>
                    obtain ⟨rfl, b7⟩ := hcut
                    generalize wc = w7 at *
                    clear HI y1 y2 y3 y4 b6
                    go_upto_region 53 with (first
                      | (go_at_call 8; refine (LT2 _).mono ?_; clear LT2; rintro e w8 ⟨rfl, b8⟩; have b8' := b7.trans (b8.mono b7.size); have RD8 := HRD.out _ b8')
                      | (go_at_call 15; refine RD8.mono ?_; clear RD8; rintro e w9 ⟨a9, c9, rfl, h9, b9⟩; have b9' := b8'.trans (b9.mono b8'.size); obtain ⟨y1, _, _, _⟩ := HCS.out _ b9'; have CVN := fun q => conv_holds (h9.below (below_drewN (Below.refl _ _) q)) c9; have CV := conv_holds h9 c9; rw [strI_take] at CV; simp only [strI_take] at CVN))
                    go_quiet (fail)
                    go_wp2
                    go_roundw
                    case rel => exact ⟨j + 1, by go_num, by omega, B5.trans ((below_drewN b9' _).mono B5.size)⟩
                    case measure => simp [intOf]; omega
                · have hz : (m : Int) + (mk : Int) ≤ (j : Int) := by omega
                  have hno := FX.no j (by omega) (by omega)
                  have SZ := fun W (bW : Below wr.heap.size wr W) => sizeN_none b d N3 K3 W (FX.below bW).many.disk (FX.below bW).many.on (nmF j) (by have := nmF_size j (by omega); omega) (lett_ok j (by omega)) hno
                  clear hno FX
                  go_wp2_with (first
                    | (go_at_call 8; refine (LT _).mono ?_; clear LT; rintro e w6 ⟨rfl, b6⟩)
                    | (go_at_call 14; refine (SZ _ b6).mono ?_; clear SZ; rintro e w7 ⟨rfl, hw⟩; obtain rfl := hw.symm))
                  go_roundw
                  case rel => exact ⟨j + 1, by go_num, by omega, B5.trans (b6.mono B5.size)⟩
                  case measure => simp [intOf]; omega
              · have hjI : ¬ (j : Int) < (sl : Int) := by omega
                have BB : Below w.heap.size w wr := HB1.out.trans ((HB4.out.trans (B5.mono hsb.out)).mono (by have := hx1.out; omega))
                go_wp2
                go_ret
                exact ⟨rfl, BB⟩
      · have hzs : ¬ (totA A : Int) ≤ 2147483647 := by omega
        have hzs2 : (2147483647 : Int) < (totA A : Int) := by omega
        generalize (totA A : Int) = t at *
        go_wp2
        go_ret
        exact ⟨rfl, BB⟩
end Go.Proofs.Ytoedeoilaeppnaa
