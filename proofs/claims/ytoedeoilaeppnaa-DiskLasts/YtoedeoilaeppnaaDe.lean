/-
  Layer 7 (disk): copyStep, file.copy.
-/
import Derived.Test.YtoedeoilaeppnaaDd
import Derived.Deep.AppendLies
import Derived.Deep.RegionLaw
namespace Go.Proofs.Ytoedeoilaeppnaa
open Go.RowKit Go.Shelf
set_option maxRecDepth 100000

/-- What a step does, wherever its bytes lie. -/
def St.abs (s : St) : Bool × Nat × List Int := (s.cut, s.n, s.K)
theorem St.v_iface (s : St) : ∃ g x, s.v = .iface g x := by
  unfold St.v
  split
  · exact ⟨_, _, rfl⟩
  · exact ⟨_, _, rfl⟩
theorem abs_on {s t : St} (h : s.abs = t.abs) (L : List Int) (u : Nat) : s.on L u = t.on L u ∧ s.units = t.units := by
  simp [St.abs] at h
  obtain ⟨h1, h2, h3⟩ := h
  simp [St.on, St.units, h1, h2, h3]
theorem abs_all : ∀ (S T : List St) (L : List Int), S.map St.abs = T.map St.abs → allOn L S = allOn L T ∧ unitsL S = unitsL T ∧ (Legal L S → Legal L T)
  | [], [], L, _ => ⟨rfl, rfl, fun h => h⟩
  | [], t :: T, L, h => by simp at h
  | s :: S, [], L, h => by simp at h
  | s :: S, t :: T, L, h => by
    simp only [List.map_cons, List.cons.injEq] at h
    obtain ⟨h1, h2⟩ := h
    have eu := (abs_on h1 L 0).2
    have eo := (abs_on h1 L t.units).1
    obtain ⟨r1, r2, r3⟩ := abs_all S T (t.on L t.units) h2
    refine ⟨?_, ?_, fun hl => ?_⟩
    · show allOn (s.on L s.units) S = allOn (t.on L t.units) T
      rw [eu, eo, r1]
    · have a : unitsL (s :: S) = s.units + unitsL S := by simp [unitsL]
      have b : unitsL (t :: T) = t.units + unitsL T := by simp [unitsL]
      rw [a, b, eu, r2]
    · simp [St.abs] at h1
      obtain ⟨k1, k2, k3⟩ := h1
      refine ⟨by rw [← k1, ← k2]; exact hl.1, by rw [← k1, ← k2, ← k3]; exact hl.2.1, r3 ?_⟩
      have h3 := hl.2.2
      rw [eu, eo] at h3
      exact h3
theorem abs_first : ∀ (S T : List St) (L : List Int) (u : Nat), S.map St.abs = T.map St.abs → firstOn L S u = firstOn L T u
  | [], [], _, _, _ => rfl
  | [], t :: T, _, _, h => by simp at h
  | s :: S, [], _, _, h => by simp at h
  | s :: S, t :: T, L, u, h => by
    simp only [List.map_cons, List.cons.injEq] at h
    have e := abs_on h.1 L u
    show firstOn (s.on L u) S (u - min u s.units) = firstOn (t.on L u) T (u - min u t.units)
    rw [e.1, e.2]
    exact abs_first S T _ _ h.2

set_option maxHeartbeats 1000000 in
theorem copyStep_any (base : Nat) (s : St) (w : World) (h : StAt base w s) :
    Calls Try.prog 44 #[s.v] w fun e w' => ∃ t : St, e = .returned t.v ∧ t.abs = s.abs ∧ StAt w.heap.size w' t ∧ Below w.heap.size w w' := by
  obtain ⟨ct, sn, sa, sc, sK⟩ := s
  cases ct with
  | true =>
    have t1 := no_app
    have R : ∀ w' : World, Below w.heap.size w w' → ∃ t : St, (Ending.returned (Value.iface 104 (.agg #[.int .i64 (sn : Int)]))) = .returned t.v ∧ t.abs = (⟨true, sn, sa, sc, sK⟩ : St).abs ∧ StAt w.heap.size w' t ∧ Below w.heap.size w w' := fun w' b => ⟨⟨true, sn, sa, sc, sK⟩, rfl, rfl, ⟨fun e => by simp at e, h.big⟩, b⟩
    clear h
    simp only [St.v, if_true]
    go_enter Try.func44, Try.ntmps44
    go_wp2
    go_ret
    exact R _ (Below.refl _ _)
  | false =>
    have t1 := is_app
    have ho := h.own rfl
    have hl := own_len ho
    have b1 : Below w.heap.size w (w.alloc (.cells #[.slice sa sn sc] 86)) := (Below.refl _ _).alloc (Nat.le_refl _) _
    have CL := clone_any _ _ _ (ho.below b1) (by have h1 : sn ≤ _ := h.big; have h2 : sn = sK.length := hl.1; show sK.length ≤ _; omega)
    have hlen : sK.length = sn := hl.1.symm
    have R : ∀ (w' : World) (a : Option Addr) (n c : Nat), OwnB (w.alloc (.cells #[.slice sa sn sc] 86)).heap.size w' (.slice a n c) sK → Below (w.alloc (.cells #[.slice sa sn sc] 86)).heap.size (w.alloc (.cells #[.slice sa sn sc] 86)) w' → ∃ t : St, (Ending.returned (Value.iface 86 (.agg #[.slice a n c]))) = .returned t.v ∧ t.abs = (⟨false, sn, sa, sc, sK⟩ : St).abs ∧ StAt w.heap.size w' t ∧ Below w.heap.size w w' := fun w' a n c o b => by
      have e : n = sn := by rw [(own_len o).1, hlen]
      subst e
      exact ⟨⟨false, n, a, c, sK⟩, rfl, rfl, ⟨fun _ => o.base (by rw [World.size_alloc]; omega), h.big⟩, b1.trans (b.mono b1.size)⟩
    have HR : Hid _ := R
    clear h ho hl hlen R
    simp only [St.v, Bool.false_eq_true, if_false]
    go_enter Try.func44, Try.ntmps44
    go_wp2_with (go_at_call 31; refine CL.mono ?_; clear CL; rintro e w' ⟨v', rfl, o, b⟩; obtain ⟨a, n, c, rfl⟩ := row_shape o)
    go_ret
    exact HR.out _ _ _ _ o b

/-- Midway in copy. -/
structure Cpy (base : Nat) (w0 : World) (F : Fl) (c : Nat) (wr : World) (k : Nat) (v1 v2 sv : Value) (T : List St) : Prop where
  blk : wr.heap[c]? = some (.cells #[v1, v2, sv] 61 (0, 0))
  low : base ≤ c
  o1 : OwnB base wr v1 F.B
  o2 : OwnB base wr v2 F.L
  os : wr.ownsRow base 94 1 sv T.length (T.map St.v)
  st : ∀ t ∈ T, StAt base wr t
  apart : ∀ k, v1.ownBlock = some k → v2.ownBlock ≠ some k
  sep : ∀ t ∈ T, ∀ k, t.bl = some k → v1.ownBlock ≠ some k ∧ v2.ownBlock ≠ some k
  abs : T.map St.abs = (F.S.take k).map St.abs
  below : Below base w0 wr
theorem Cpy.last {base : Nat} {w0 : World} {F : Fl} {c : Nat} {wr : World} {k : Nat} {v1 v2 sv : Value} {T : List St} (h : Cpy base w0 F c wr k v1 v2 sv T) (hk : F.S.length ≤ k) (hl : Legal F.L F.S) (hs : F.B = allOn F.L F.S) : FileAt base wr c ⟨v1, v2, sv, F.B, F.L, T⟩ ∧ T.map St.abs = F.S.map St.abs := by
  have e := h.abs
  rw [List.take_of_length_le hk] at e
  obtain ⟨e1, e2, e3⟩ := abs_all F.S T F.L e.symm
  exact ⟨⟨h.blk, h.low, h.o1, h.o2, h.os, h.st, h.apart, h.sep, e3 hl, by show F.B = allOn F.L T; rw [hs, e1]⟩, e⟩
theorem Cpy.len {base : Nat} {w0 : World} {F : Fl} {c : Nat} {wr : World} {k : Nat} {v1 v2 sv : Value} {T : List St} (h : Cpy base w0 F c wr k v1 v2 sv T) (hk : k ≤ F.S.length) : T.length = k := by
  have := congrArg List.length h.abs
  simp at this
  omega
theorem Cpy.next {base : Nat} {w0 : World} {F : Fl} {c : Nat} {wr w1 w2 : World} {k : Nat} {v1 v2 sv sv' : Value} {T : List St} {t : St} (x : Obj) (h : Cpy base w0 F c wr k v1 v2 sv T) (hb : base ≤ w0.heap.size) (hk : k < F.S.length)
    (ht : t.abs = F.S[k].abs) (h1 : StAt wr.heap.size w1 t) (b1 : Below wr.heap.size wr w1) (o2 : w2.ownsRow base 94 1 sv' (T.length + 1) (T.map St.v ++ [t.v])) (g2 : (w1.alloc x).grownBy w2 sv.ownBlock) (m2 : Moved (w1.alloc x) sv sv') :
    Cpy base w0 F c (w2.setCell ⟨c, 2, none⟩ sv') (k + 1) v1 v2 sv' (T ++ [t]) ∧ w2.heap[c]? = some (.cells #[v1, v2, sv] 61 (0, 0)) := by
  have hs := h.below.size
  have hlt := lt_of_block h.blk
  have nc : sv.ownBlock ≠ some c := own_not h.os h.blk (fun cs h => by simp at h)
  have n1 : v1.ownBlock ≠ some c := own_not h.o1 h.blk (fun cs h => by simp at h)
  have n2 : v2.ownBlock ≠ some c := own_not h.o2 h.blk (fun cs h => by simp at h)
  have hs1 := b1.size
  have hblk : w2.heap[c]? = some (.cells #[v1, v2, sv] 61 (0, 0)) := by
    refine (g2.block c (by rw [World.size_alloc]; omega) (fun e => nc e.symm)).trans ?_
    exact (Below.heap_alloc _ _ _ (by omega)).trans ((b1.block c hlt).trans h.blk)
  have U : Upd (fun k => k = c ∨ sv.ownBlock = some k) wr (w2.setCell ⟨c, 2, none⟩ sv') := (((Upd.ofBelow (S := fun k => k = c ∨ sv.ownBlock = some k) b1 (fun k h1 h2 => by omega)).alloc x).grown g2 (fun k _ e => Or.inr e)).setCell (p := ⟨c, 2, none⟩) (fun _ => Or.inl rfl) sv'
  have U1 : Upd (fun k => k = c ∨ sv.ownBlock = some k) w1 (w2.setCell ⟨c, 2, none⟩ sv') := (((Upd.refl (fun k => k = c ∨ sv.ownBlock = some k) w1).alloc x).grown g2 (fun k _ e => Or.inr e)).setCell (p := ⟨c, 2, none⟩) (fun _ => Or.inl rfl) sv'
  have m3 : Moved wr sv sv' := (Moved.refl wr sv).trans (by rw [World.size_alloc]; omega) m2
  have nc' : sv'.ownBlock ≠ some c := fun e => (m3.old e).elim nc (fun h => by omega)
  have tlt : ∀ k, t.bl = some k → wr.heap.size ≤ k := fun k e => (h1.lt e).1
  have t1 : StAt base w1 t := ⟨fun hc => (h1.own hc).base (by omega), h1.big⟩
  refine ⟨⟨set3_2 sv' hblk, h.low, h.o1.upd U (fun k e hh => ?_), h.o2.upd U (fun k e hh => ?_), ?_, ?_, h.apart, ?_, ?_, ?_⟩, hblk⟩
  · rcases hh with rfl | hh
    · exact n1 e
    · obtain ⟨cs, hcs⟩ := own_type h.os hh
      exact own_not h.o1 hcs (fun cs h => by simp at h) e
  · rcases hh with rfl | hh
    · exact n2 e
    · obtain ⟨cs, hcs⟩ := own_type h.os hh
      exact own_not h.o2 hcs (fun cs h => by simp at h) e
  · have := ownsRow_upd o2 ((Upd.refl (fun k => k = c) w2).setCell (p := ⟨c, 2, none⟩) (fun _ => rfl) sv') (fun k e hh => by subst hh; exact nc' e)
    simpa using this
  · intro y hy
    rcases List.mem_append.1 hy with hy | hy
    · refine (h.st y hy).upd U (fun k e hh => ?_)
      obtain ⟨cs, hcs⟩ := (h.st y hy).type e
      rcases hh with rfl | hh
      · rw [h.blk] at hcs; simp at hcs
      · exact own_not h.os hcs (fun cs h => by simp at h) hh
    · rw [List.mem_singleton.1 hy]
      refine t1.upd U1 (fun k e hh => ?_)
      have := tlt k e
      rcases hh with rfl | hh
      · omega
      · have := (own_lt h.os hh).1; omega
  · intro y hy k e
    rcases List.mem_append.1 hy with hy | hy
    · exact h.sep y hy k e
    · rw [List.mem_singleton.1 hy] at e
      have := tlt k e
      exact ⟨fun e2 => by have := (h.o1.lt e2).1; omega, fun e2 => by have := (h.o2.lt e2).1; omega⟩
  · rw [List.map_append, h.abs, List.take_succ_eq_append_getElem hk, List.map_append, List.map_cons, List.map_nil, List.map_cons, List.map_nil, ht]
  · refine h.below.trans (U.below (by omega) (fun k hk hh => ?_))
    rcases hh with rfl | hh
    · have := h.low; omega
    · have := (own_lt h.os hh).2; omega

/-- A file that is as another one is, in memory of its own. -/
def Copied (base : Nat) (F : Fl) (w w' : World) (c : Nat) : Prop := ∃ G, FileAt base w' c G ∧ G.B = F.B ∧ G.L = F.L ∧ G.S.map St.abs = F.S.map St.abs ∧ Below base w w'
set_option maxHeartbeats 4000000 in
theorem fcopy_any (base : Nat) (f : Nat) (F : Fl) (w : World) (h : FileAt base w f F) (hB : F.B.length ≤ 140737488355328) (hL : F.L.length ≤ 140737488355328) (hmany : F.S.length ≤ 1000000000000) :
    Calls Try.prog 33 #[.pointer (some ⟨f, 0, none⟩)] w fun e w' => ∃ c, e = .returned (.pointer (some ⟨c, 0, none⟩)) ∧ Copied w.heap.size F w w' c := by
  obtain ⟨i0, hi, hz0, hz1, hz2⟩ := info_parts Try.info94
  obtain ⟨c0, c1, c2⟩ := cell3 h.block
  have hlt := lt_of_block h.block
  have KC : ∀ W, Below w.heap.size w W → W.cell? ⟨f, 0, none⟩ = some F.bv ∧ W.cell? ⟨f, 1, none⟩ = some F.lv := fun W hW => ⟨(cell3 ((hW.block f hlt).trans h.block)).1, (cell3 ((hW.block f hlt).trans h.block)).2.1⟩
  have K2 : ∀ W, Below w.heap.size w W → W.cell? ⟨f, 2, none⟩ = some F.sv := fun W hW => (cell3 ((hW.block f hlt).trans h.block)).2.2
  have CB := fun W (b : Below w.heap.size w W) => clone_any F.bv F.B W (h.bown.below b) hB
  have CL := fun W (b : Below w.heap.size w W) => clone_any F.lv F.L W (h.lown.below b) hL
  obtain ⟨aB, kB, hbv, _⟩ := h.bown.shape
  obtain ⟨aL, kL, hlv, _⟩ := h.lown.shape
  obtain ⟨aS, lS, kS, hsv⟩ := row_shape h.sown
  have hoS := h.sown
  rw [hsv] at hoS
  obtain ⟨eS, _, _⟩ := own_len hoS
  subst eS
  have CE : ∀ wr k (hk : k < F.S.length), Below w.heap.size w wr → ∃ g, aS = some ⟨g, 0, none⟩ ∧ wr.cell? ⟨g, k, none⟩ = some F.S[k].v := by
    intro wr k hk b
    obtain ⟨g, e, hc⟩ := own_cell (own_below hoS b) (by omega)
    exact ⟨g, e, hc k _ (by simp [hk])⟩
  have CP : ∀ wr k (hk : k < F.S.length), Below w.heap.size w wr → Calls Try.prog 44 #[F.S[k].v] wr fun e w' => ∃ t : St, e = .returned t.v ∧ t.abs = F.S[k].abs ∧ StAt wr.heap.size w' t ∧ Below wr.heap.size wr w' := fun wr k hk b => copyStep_any base F.S[k] wr ((h.steps _ (List.getElem_mem hk)).below b)
  have LAST : ∀ c wr k v1 v2 sv T, Cpy w.heap.size w F c wr k v1 v2 sv T → F.S.length ≤ k → Copied w.heap.size F w wr c := fun c wr k v1 v2 sv T hC hk => by
    obtain ⟨a, b⟩ := hC.last hk h.legal h.sum
    exact ⟨_, a, rfl, rfl, b, hC.below⟩
  have START : ∀ (w1 w2 : World) (v1 v2 : Value), Below w.heap.size w w1 → OwnB w.heap.size w1 v1 F.B → Below w1.heap.size w1 w2 → OwnB w1.heap.size w2 v2 F.L → Cpy w.heap.size w F w2.heap.size (w2.alloc (.cells #[v1, v2, .slice none 0 0] 61)) 0 v1 v2 (.slice none 0 0) [] := by
    intro w1 w2 v1 v2 b1 o1 b2 o2
    have h1 := b1.size
    have h2 := b2.size
    have b3 : Below w2.heap.size w2 (w2.alloc (.cells #[v1, v2, .slice none 0 0] 61)) := (Below.refl _ _).alloc (Nat.le_refl _) _
    exact ⟨heap_alloc_new _ _, by omega, (o1.below b2).below b3, (o2.base h1).below b3, nil_own _ _, fun t ht => by simp at ht, fun k e1 e2 => by have := (o1.lt e1).1; have := (o2.lt e2).2; omega, fun t ht => by simp at ht, by simp, b1.trans ((b2.trans (b3.mono h2)).mono h1)⟩
  have NX := fun c (wr w1 w2 : World) k v1 v2 sv sv' T t x (hC : Cpy w.heap.size w F c wr k v1 v2 sv T) (hk : k < F.S.length) => @Cpy.next w.heap.size w F c wr w1 w2 k v1 v2 sv sv' T t x hC (Nat.le_refl _) hk
  have LEN := fun c (wr : World) k v1 v2 sv T (hC : Cpy w.heap.size w F c wr k v1 v2 sv T) (hk : k ≤ F.S.length) => hC.len hk
  obtain ⟨n, hnn⟩ : ∃ n, F.S.length = n := ⟨_, rfl⟩
  have hnb : n ≤ 1000000000000 := by omega
  have HN : Hid _ := hnn
  have HLAST : Hid _ := LAST
  have HNX : Hid _ := NX
  have HLEN : Hid _ := LEN
  have HCE : Hid _ := CE
  have HCP : Hid _ := CP
  have HST : Hid _ := START
  rw [hsv, hnn] at K2
  have HK2 : Hid _ := K2
  clear LAST NX LEN CE CP START K2 h hoS hmany hB hL hsv hnn c0 c1 c2
  have SHB : ∀ (b : Nat) (v : Value) (w1 : World), OwnB b w1 v F.B → ∃ a n c, v = .slice a n c := fun b v w1 o => row_shape o
  have SHL : ∀ (b : Nat) (v : Value) (w1 : World), OwnB b w1 v F.L → ∃ a n c, v = .slice a n c := fun b v w1 o => row_shape o
  generalize Copied w.heap.size F w = R at *
  rw [hbv] at KC CB
  rw [hlv] at KC CL
  generalize F.B.length = nB at *
  generalize F.L.length = nL at *
  clear hbv hlv
  go_enter Try.func33, Try.ntmps33
  go_wp2
  go_region_held3 (fun w' => w'.cell? ⟨f, 0, none⟩ = some (.slice aB nB kB) ∧ w'.cell? ⟨f, 1, none⟩ = some (.slice aL nL kL)) (exact KC _ (by repeat' first | exact Below.refl _ _ | assumption | refine Below.alloc ?_ (by first | exact Nat.le_refl _ | omega | (simp; omega) | (simp; done)) _ | refine Below.drew ?_)) (first
    | (go_at_call 31; (with_reducible refine (CB _ (by repeat' first | exact Below.refl _ _ | assumption | refine Below.alloc ?_ (by first | exact Nat.le_refl _ | omega | (simp; omega) | (simp; done)) _ | refine Below.drew ?_)).mono ?_); clear CB; rintro e w1 ⟨v1, rfl, o1, b1⟩; have B1 : Below w.heap.size w w1 := Below.trans (by repeat' first | exact Below.refl _ _ | assumption | refine Below.alloc ?_ (by first | exact Nat.le_refl _ | omega | (simp; omega) | (simp; done)) _ | refine Below.drew ?_) (b1.mono (by first | exact Nat.le_refl _ | omega | (simp; omega) | (simp; done))); have O1 : OwnB w.heap.size w1 v1 F.B := o1.base (by first | exact Nat.le_refl _ | omega | (simp; omega) | (simp; done)); clear b1 o1; have zB1 := B1.size; obtain ⟨x1, y1, z1, rfl⟩ := SHB _ _ _ O1)
    | (go_at_call 31; (with_reducible refine (CL _ (by repeat' first | exact Below.refl _ _ | assumption | refine Below.alloc ?_ (by first | exact Nat.le_refl _ | omega | (simp; omega) | (simp; done)) _ | refine Below.drew ?_)).mono ?_); clear CL; rintro e w2 ⟨v2, rfl, o2, b2⟩; have B2 : Below w.heap.size w w2 := Below.trans (by repeat' first | exact Below.refl _ _ | assumption | refine Below.alloc ?_ (by first | exact Nat.le_refl _ | omega | (simp; omega) | (simp; done)) _ | refine Below.drew ?_) (b2.mono (by first | exact Nat.le_refl _ | omega | (simp; omega) | (simp; done))); have B12 : Below w1.heap.size w1 w2 := Below.trans (by repeat' first | exact Below.refl _ _ | assumption | refine Below.alloc ?_ (by first | exact Nat.le_refl _ | omega | (simp; omega) | (simp; done)) _ | refine Below.drew ?_) (b2.mono (by first | exact Nat.le_refl _ | omega | (simp; omega) | (simp; done))); have O2 : OwnB w1.heap.size w2 v2 F.L := o2.base (by first | exact Nat.le_refl _ | omega | (simp; omega) | (simp; done)); clear b2 o2; have zB2 := B2.size; obtain ⟨x2, y2, z2, rfl⟩ := SHL _ _ _ O2))
  have C0 := HST.out _ _ _ _ B1 O1 B12 O2
  have B3 : Below w.heap.size w (w2.alloc (.cells #[.slice x1 y1 z1, .slice x2 y2 z2, .slice none 0 0] 61)) := B2.alloc zB2 _
  have f2 := HK2.out _ B3
  clear O1 O2 B12 B1 SHB SHL HST KC
  go_wp2
  go_loopw [23] (fun b wr => ∃ (k : Nat) (sv : Value) (T : List St), b = .int .i64 k ∧ k ≤ n ∧ Cpy w.heap.size w F w2.heap.size wr k (.slice x1 y1 z1) (.slice x2 y2 z2) sv T) (fun b _ => n - (intOf b).toNat)
  case atStart => exact ⟨0, _, _, rfl, by omega, C0⟩
  case round =>
    obtain ⟨k, sv, T, rfl, hk, hC⟩ := hrel
    have Bw := hC.below
    by_cases hlt2 : k < n
    · have hz : (k : Int) < (n : Int) := by omega
      have hkS : k < F.S.length := by have := HN.out; omega
      obtain ⟨g, rfl, cS⟩ := HCE.out _ _ hkS Bw
      have CP := fun W (b : Below w.heap.size w W) => HCP.out W k hkS b
      have hT := HLEN.out _ _ _ _ _ _ _ hC (by omega)
      have hsz := Bw.size
      have NX := fun (w1 w2 : World) sv' t x => HNX.out _ wr w1 w2 k _ _ sv sv' T t x hC hkS
      have hblk := hC.blk
      have hos := hC.os
      obtain ⟨aT, lT, cT, rfl⟩ := row_shape hos
      obtain ⟨eT, _, _⟩ := own_len hos
      subst eT
      have d2 := (cell3 hblk).2.2
      have d3 := free3 hblk 2
      have hcl := lt_of_block hblk
      have ncs : (Value.slice aT T.length cT).ownBlock ≠ some w2.heap.size := own_not hos hblk (fun cs h => by simp at h)
      have HC2 : Hid _ := hblk
      have HOS : Hid _ := hos
      have hT2 : T.length + 1 ≤ maxLen := by unfold maxLen; omega
      have hT3 : (T.length + 1) * 16 ≤ 140737488355328 := by omega
      clear hC hblk hos
      generalize F.S[k] = s at cS CP NX
      obtain ⟨sg, sx, hsv2⟩ := s.v_iface
      rw [hsv2] at cS CP
      rw [hT] at d2 ncs HC2 HOS hT2 hT3 NX
      have HTL : Hid _ := hT
      clear hT
      generalize T.map St.v = TV at *
      go_wp2
      go_region_law (first
        | (go_simp; go_at_call 44; refine (CP _ (by repeat' first | exact Below.refl _ _ | assumption | refine Below.alloc ?_ (by first | omega | (simp; omega) | (simp; done)) _ | refine Below.drew ?_)).mono ?_; clear CP; rintro e w3 ⟨t, rfl, ta, ts, b3⟩; obtain ⟨tg, tx, htv⟩ := t.v_iface; rw [htv]; have B3' : Below wr.heap.size wr w3 := Below.trans (by repeat' first | exact Below.refl _ _ | assumption | refine Below.alloc ?_ (by first | omega | (simp; omega) | (simp; done)) _ | refine Below.drew ?_) (b3.mono (by first | exact Nat.le_refl _ | omega | (simp; omega) | (simp; done))); have TS : StAt wr.heap.size w3 t := ⟨fun hc => (ts.own hc).base (by first | exact Nat.le_refl _ | omega | (simp; omega) | (simp; done)), ts.big⟩; clear b3 ts; have z3 := B3'.size; have d4 := (cell3 ((B3'.block _ hcl).trans HC2.out)).2.2; have d5 := (cell3 ((Below.heap_alloc w3 (.cells #[.iface tg tx] 94) w2.heap.size (by omega)).trans ((B3'.block _ hcl).trans HC2.out))).2.2)
        | (refine step_append_lies _ (by rfl) _ _ _ (by rfl) w.heap.size 94 i0 .nilIface 1 16 Try.underlying59 hi hz0 hz1 hz2 rfl (by omega) (.slice aT k cT) k TV (by rfl) ((own_below HOS.out B3').alloc _) ⟨w3.heap.size, 0, none⟩ 1 1 [.iface tg tx] (by rfl) (by rfl) (World.news_of_block (cs := #[.iface tg tx]) (t := 94) (fr := (0, 0)) (heap_alloc_new w3 _)) (by simp [Value.oneCell']) (by omega) hT2 hT3 (by simp; omega) (w3.heap.size + 1) (by simp) ?_; intro gg cap w4 o4 g4 at4 lt4; have k4 := (g4.block w2.heap.size (by simp; omega) (fun e => ncs e.symm)).trans ((Below.heap_alloc _ _ _ (by omega)).trans ((B3'.block _ hcl).trans HC2.out)); have y4 := (cell3 k4).2.2; have y5 := free3 k4 2))
      all_goals (
        have mv : Moved (w3.alloc (.cells #[.iface tg tx] 94)) (.slice aT k cT) (.slice (some ⟨gg, 0, none⟩) (k + 1) cap) := at4.elim (fun e => Or.inl e.symm) (fun e => Or.inr ⟨gg, rfl, by rw [World.size_alloc]; omega⟩)
        have CN := (NX w3 w4 (.slice (some ⟨gg, 0, none⟩) (k + 1) cap) t (.cells #[.iface tg tx] 94) ta TS B3' (by rw [htv]; exact o4) g4 mv).1
        clear NX mv o4 g4 at4
        go_wp2
        go_roundw
        case rel => exact ⟨k + 1, _, _, by go_num, by omega, CN⟩
        case measure => (simp [intOf]; omega))
    · have hz : ¬ (k : Int) < (n : Int) := by omega
      have EN := HLAST.out _ _ _ _ _ _ _ hC (by have := HN.out; omega)
      clear hC
      go_wp2
      go_ret
      exact ⟨_, rfl, EN⟩
end Go.Proofs.Ytoedeoilaeppnaa
