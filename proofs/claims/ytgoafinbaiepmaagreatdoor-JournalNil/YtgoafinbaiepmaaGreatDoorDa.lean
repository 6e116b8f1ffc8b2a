/-
  Layer 7 (disk): memory of bytes; steps of a file; doFile.
-/
import Derived.Test.YtgoafinbaiepmaaGreatDoorProg
import Derived.Test.YtgoafinbaiepmaaGreatDoorMem
import Derived.Laws.CopyOwn
import Derived.Deep.WholeRow
import Derived.BigQuiet
import Derived.WalkMore
import Derived.Shelf.Bytes.SlClone
import Derived.Shelf.Lay
import Derived.Ground.SlbCloneProg
namespace Go.Proofs.YtgoafinbaiepmaaGreatDoor
open Go.RowKit Go.Shelf
set_option maxRecDepth 100000
theorem Tryz.info5 : (Tryz.prog.info? 5).map (fun i => (i.zero, i.size, i.bytes)) = some (some (.int .u8 0), 1, 1) := by kernel_rfl

/-- The cells of a slice value hold these bytes. -/
structure Holds (w : World) (ad : Option Addr) (n : Nat) (K : List Int) : Prop where
  len : K.length = n
  cells : ∀ j u, (K.map (Value.int .u8))[j]? = some u → ∃ a, ad = some a ∧ w.cell? (a.add j) = some u

theorem Holds.ofRow {base : Nat} {w : World} {ad : Option Addr} {n cap : Nat} {K : List Int} (h : w.ownsRow base 5 1 (.slice ad n cap) K.length (K.map (Value.int .u8))) : Holds w ad n K := by
  rcases h.2 with ⟨e, hn⟩ | ⟨g, cap', cur, e, _⟩
  · simp at e
    obtain ⟨rfl, rfl, rfl⟩ := e
    have : K = [] := List.eq_nil_of_length_eq_zero hn
    subst this
    exact ⟨rfl, fun j u hj => by simp at hj⟩
  · simp at e
    obtain ⟨rfl, rfl, rfl⟩ := e
    exact ⟨rfl, fun j u hj => ⟨_, rfl, h.cells (g := g) rfl j u hj⟩⟩
theorem Holds.nil (w : World) : Holds w none 0 [] := ⟨rfl, fun j u hj => by simp at hj⟩

theorem u8_one (K : List Int) : ∀ u ∈ K.map (Value.int .u8), u.oneCell' = true := ints_oneCell _ _

theorem copy_src {w : World} {ad : Option Addr} {cs : List Value} (h : ∀ j u, cs[j]? = some u → ∃ a, ad = some a ∧ w.cell? (a.add j) = some u) (hp : 0 < cs.length) : ∃ a, ad = some a ∧ ∀ j u, cs[j]? = some u → w.cell? (a.add j) = some u := by
  obtain ⟨a, ha, _⟩ := h 0 cs[0] (by simp [hp])
  refine ⟨a, ha, fun j u hj => ?_⟩
  obtain ⟨a', ha', hc⟩ := h j u hj
  rw [ha] at ha'
  simp at ha'
  subst ha'
  exact hc
theorem row_shape {base : Nat} {w : World} {e : TypeId} {size n : Nat} {v : Value} {xs : List Value} (h : w.ownsRow base e size v n xs) : ∃ ao l c, v = .slice ao l c := by
  rcases h.2 with ⟨rfl, _⟩ | ⟨g, cap, cur, rfl, _⟩
  · exact ⟨_, _, _, rfl⟩
  · exact ⟨_, _, _, rfl⟩

/-- What is below stays. -/
theorem Holds.mono {w w' : World} {ad : Option Addr} {n : Nat} {K : List Int} (h : Holds w ad n K) (hc : ∀ a v, w.cell? a = some v → ad.map (·.block) = some a.block → w'.cell? a = some v) : Holds w' ad n K := by
  refine ⟨h.len, fun j u hj => ?_⟩
  obtain ⟨a, rfl, h2⟩ := h.cells j u hj
  exact ⟨a, rfl, hc _ _ h2 (by simp [Addr.add]; split <;> rfl)⟩
theorem cell_upd {S : Nat → Prop} {w w' : World} (hu : Upd S w w') {a : Addr} {v : Value} (h : w.cell? a = some v) (hS : ¬ S a.block) : w'.cell? a = some v := by
  have hlt := World.block_lt_of_cell? w a h
  have hb := hu.block a.block hlt hS
  unfold World.cell? at h ⊢
  rw [hb]; exact h
theorem Holds.upd {S : Nat → Prop} {w w' : World} {ad : Option Addr} {n : Nat} {K : List Int} (h : Holds w ad n K) (hu : Upd S w w') (hS : ∀ a, ad = some a → ¬ S a.block) : Holds w' ad n K :=
  h.mono fun a v hc e => cell_upd hu hc (by
    cases ad with
    | none => simp at e
    | some b => simp at e; rw [← e]; exact hS b rfl)
theorem Holds.below {w w' : World} {ad : Option Addr} {n : Nat} {K : List Int} (h : Holds w ad n K) (hb : Below w.heap.size w w') : Holds w' ad n K :=
  h.upd (Upd.ofBelow (S := fun _ => False) hb (fun k hk hk' => by omega)) (fun _ _ h => h)
/-- One byte of them. -/
theorem Holds.at {w : World} {a : Addr} {n : Nat} {K : List Int} (h : Holds w (some a) n K) (j : Nat) (hj : j < K.length) : w.cell? (a.add j) = some (.int .u8 (K.getD j 0)) := by
  obtain ⟨a', e, hc⟩ := h.cells j (.int .u8 (K.getD j 0)) (by simp [List.getD, hj])
  simp at e; subst e; exact hc
theorem Holds.some_of {w : World} {ad : Option Addr} {n : Nat} {K : List Int} (h : Holds w ad n K) (hj : 0 < K.length) : ∃ b o, ad = some ⟨b, o, none⟩ := by
  obtain ⟨a, e, hc⟩ := h.cells 0 (.int .u8 (K.getD 0 0)) (by simp [List.getD, hj])
  obtain ⟨b, o, s⟩ := a
  cases s with
  | none => exact ⟨b, o, e⟩
  | some sp =>
    exfalso
    simp [World.cell?, Addr.add] at hc
    split at hc <;> simp at hc
/-- A part of them. -/
theorem Holds.sub {w : World} {b o n : Nat} {K : List Int} (h : Holds w (some ⟨b, o, none⟩) n K) (i m : Nat) (hm : i + m ≤ n) : Holds w (some ⟨b, o + i, none⟩) m ((K.drop i).take m) := by
  have hl := h.len
  refine ⟨by simp; omega, fun j u hj => ⟨_, rfl, ?_⟩⟩
  have hj2 : j < m := by
    have := (List.getElem?_eq_some_iff.1 hj).1
    simp at this; omega
  have hk := h.at (i + j) (by omega)
  simp [hj2] at hj
  obtain ⟨x, hx, rfl⟩ := hj
  rw [Addr.add_lit] at hk ⊢
  rw [Nat.add_assoc, hk]
  simp [List.getD, hx]

/-- A row of bytes, whole. -/
def RowAt (w : World) (g : Nat) (K : List Int) : Prop := w.heap[g]? = some (.cells (K.map (Value.int .u8)).toArray 5 (0, 0))
theorem RowAt.cell {w : World} {g : Nat} {K : List Int} (h : RowAt w g K) (j : Nat) (hj : j < K.length) : w.cell? ⟨g, j, none⟩ = some (.int .u8 (K.getD j 0)) := by
  unfold RowAt at h
  simp [World.cell?, h, List.getD, hj]
theorem RowAt.upd {w w' : World} {g : Nat} {K : List Int} {S : Nat → Prop} (h : RowAt w g K) (hu : Upd S w w') (hS : ¬ S g) : RowAt w' g K := (hu.block g (lt_of_block h) hS).trans h
theorem RowAt.own {w : World} {g : Nat} {K : List Int} (h : RowAt w g K) (base : Nat) (hb : base ≤ g) (hl : K.length ≤ maxLen) : w.ownsRow base 5 1 (.slice (some ⟨g, 0, none⟩) K.length K.length) K.length (K.map (Value.int .u8)) :=
  ⟨by simp, Or.inr ⟨g, K.length, _, rfl, hb, h, Nat.le_refl _, hl, by simp, by rw [Nat.mul_one, List.take_of_length_le (by simp)]⟩⟩
theorem RowAt.holds {w : World} {g : Nat} {K : List Int} (h : RowAt w g K) : Holds w (some ⟨g, 0, none⟩) K.length K := by
  refine ⟨rfl, fun j u hj => ⟨_, rfl, ?_⟩⟩
  unfold RowAt at h
  rw [Addr.add_lit]
  simp only [World.cell?, Nat.zero_add, h]
  simpa using hj

/-- A string's bytes, as numbers. -/
def bytesI (s : ByteArray) : List Int := s.data.toList.map fun b => (b.toNat : Int)
theorem bytesI_length (s : ByteArray) : (bytesI s).length = s.size := by unfold bytesI; rw [List.length_map, Array.length_toList]; rfl
theorem bytesI_cells (s : ByteArray) : (bytesI s).map (Value.int .u8) = byteCells s := by unfold bytesI byteCells; rw [List.map_map]; rfl


theorem own_below {base : Nat} {w w' : World} {e : TypeId} {size : Nat} {v : Value} {n : Nat} {xs : List Value} (h : w.ownsRow base e size v n xs) (hb : Below w.heap.size w w') : w'.ownsRow base e size v n xs :=
  ownsRow_upd h (Upd.ofBelow (S := fun _ => False) hb (fun k hk hk' => by omega)) (fun _ _ h => h)
theorem own_lt {base : Nat} {w : World} {e : TypeId} {size : Nat} {v : Value} {n : Nat} {xs : List Value} (h : w.ownsRow base e size v n xs) {j : Nat} (hj : v.ownBlock = some j) : j < w.heap.size ∧ base ≤ j := by
  rcases h.2 with ⟨rfl, _⟩ | ⟨g, cap, cur, rfl, hb, hg, _⟩
  · simp [Value.ownBlock] at hj
  · simp [Value.ownBlock] at hj
    subst hj
    exact ⟨lt_of_block hg, hb⟩
theorem own_base {w : World} {b b' : Nat} {e : TypeId} {size : Nat} {v : Value} {n : Nat} {xs : List Value} (h : w.ownsRow b e size v n xs) (hb : b' ≤ b) : w.ownsRow b' e size v n xs := by
  obtain ⟨h1, h2⟩ := h
  refine ⟨h1, ?_⟩
  rcases h2 with h2 | ⟨g, cap, cur, rfl, hg, r⟩
  · exact Or.inl h2
  · exact Or.inr ⟨g, cap, cur, rfl, by omega, r⟩
theorem own_len {base e size : Nat} {w : World} {ad : Option Addr} {l cap n : Nat} {xs : List Value} (h : w.ownsRow base e size (.slice ad l cap) n xs) : l = n ∧ n ≤ cap ∧ cap ≤ maxLen := by
  rcases h.2 with ⟨e, hn⟩ | ⟨g, c, cur, e, _, _, h3, h4, _⟩
  · simp at e; obtain ⟨rfl, rfl, rfl⟩ := e; exact ⟨hn.symm, by omega, by simp [maxLen]⟩
  · simp at e; obtain ⟨rfl, rfl, rfl⟩ := e; exact ⟨rfl, h3, h4⟩
/-- The first of them. -/
theorem own_take {base e : Nat} {w : World} {ad : Option Addr} {l cap n : Nat} {xs : List Value} (h : w.ownsRow base e 1 (.slice ad l cap) n xs) (m : Nat) (hm : m ≤ n) : w.ownsRow base e 1 (.slice ad m cap) m (xs.take m) := by
  have hx : xs.length = n := by have := h.1; omega
  rcases h.2 with ⟨e, hn⟩ | ⟨g, c, cur, e, h2, h3, h4, h5, h6, h7⟩
  · simp at e; obtain ⟨rfl, rfl, rfl⟩ := e
    obtain rfl : m = 0 := by omega
    simp
    exact World.ownsRow_nil _ _ _ _
  · simp at e; obtain ⟨rfl, rfl, rfl⟩ := e
    refine ⟨by simp; omega, Or.inr ⟨g, cap, cur, rfl, h2, h3, by omega, h5, h6, ?_⟩⟩
    rw [← h7, List.take_take, Nat.mul_one, Nat.mul_one, Nat.min_eq_left hm]
theorem Holds.take {w : World} {ad : Option Addr} {n : Nat} {K : List Int} (h : Holds w ad n K) (m : Nat) (hm : m ≤ n) : Holds w ad m (K.take m) := by
  refine ⟨by have := h.len; simp; omega, fun j u hj => h.cells j u ?_⟩
  rw [List.map_take] at hj
  have hj2 : j < m := by have := (List.getElem?_eq_some_iff.1 hj).1; simp at this; omega
  rwa [List.getElem?_take_of_lt hj2] at hj
theorem Holds.src {w : World} {ad : Option Addr} {n : Nat} {K : List Int} (h : Holds w ad n K) (cap : Nat) : Src Tryz.prog 1 37 (.slice ad n cap) n (K.map (Value.int .u8)) w := by
  have hl := h.len
  cases ad with
  | none =>
    have hK0 : K = [] := by
      cases K with
      | nil => rfl
      | cons x r => obtain ⟨a, ha, _⟩ := h.cells 0 (.int .u8 x) (by simp); simp at ha
    subst hK0
    subst hl
    exact Src.ofNil _ Tryz.underlying37 cap
  | some a =>
    exact Src.ofSlice _ Tryz.underlying37 a n cap _ (by simpa using hl) (fun j u hj => by
      obtain ⟨a', ha, hc⟩ := h.cells j u hj
      simp at ha; subst ha; exact hc) (u8_one K)
/-- A row of bytes of one's own. -/
def OwnB (base : Nat) (w : World) (v : Value) (L : List Int) : Prop := w.ownsRow base 5 1 v L.length (L.map (Value.int .u8))
theorem OwnB.nil (base : Nat) (w : World) : OwnB base w (.slice none 0 0) [] := World.ownsRow_nil _ _ _ _
theorem OwnB.shape {base : Nat} {w : World} {v : Value} {L : List Int} (h : OwnB base w v L) : ∃ ao c, v = .slice ao L.length c ∧ L.length ≤ c ∧ c ≤ maxLen := by
  obtain ⟨ao, l, c, rfl⟩ := row_shape h
  obtain ⟨h1, h2, h3⟩ := own_len h
  subst h1
  exact ⟨ao, c, rfl, h2, h3⟩
theorem OwnB.holds {base : Nat} {w : World} {ad : Option Addr} {n c : Nat} {L : List Int} (h : OwnB base w (.slice ad n c) L) : Holds w ad n L := Holds.ofRow h
theorem OwnB.below {base : Nat} {w w' : World} {v : Value} {L : List Int} (h : OwnB base w v L) (hb : Below w.heap.size w w') : OwnB base w' v L := own_below h hb
theorem OwnB.base {b b' : Nat} {w : World} {v : Value} {L : List Int} (h : OwnB b w v L) (hb : b' ≤ b) : OwnB b' w v L := Go.Proofs.YtgoafinbaiepmaaGreatDoor.own_base h hb
theorem OwnB.upd {S : Nat → Prop} {base : Nat} {w w' : World} {v : Value} {L : List Int} (h : OwnB base w v L) (hu : Upd S w w') (hS : ∀ k, v.ownBlock = some k → ¬ S k) : OwnB base w' v L := ownsRow_upd h hu hS
theorem OwnB.lt {base : Nat} {w : World} {v : Value} {L : List Int} (h : OwnB base w v L) {j : Nat} (hj : v.ownBlock = some j) : j < w.heap.size ∧ base ≤ j := own_lt h hj
theorem OwnB.take {base : Nat} {w : World} {ad : Option Addr} {l c : Nat} {L : List Int} (h : OwnB base w (.slice ad l c) L) (m : Nat) (hm : m ≤ L.length) : OwnB base w (.slice ad m c) (L.take m) := by
  have := own_take h m hm
  unfold OwnB
  rw [List.length_take, Nat.min_eq_left hm, List.map_take]
  exact this
theorem src_one {P : Program} {tx e : TypeId} (hu : P.underlying tx = some (.slice e)) (w : World) (x : Value) (t : TypeId) (h1 : x.oneCell' = true) : Src P 1 tx (.slice (some ⟨w.heap.size, 0, none⟩) 1 1) 1 [x] (w.alloc (.cells #[x] t)) := by
  refine Src.ofSlice _ hu ⟨w.heap.size, 0, none⟩ 1 1 _ rfl ?_ ?_
  · intro j u hj
    match j, hj with
    | 0, hj => simp at hj; subst hj; simp [Addr.add]
  · intro u hu; simp at hu; subst hu; exact h1
theorem ret_v {a b : Value} (h : a = b) : Ending.returned a = .returned b := by rw [h]

/-- A step of a file: an Append (its bytes K lie at a, n of them), or a Cut to n. -/
structure St where
  cut : Bool
  n : Nat
  a : Option Addr
  c : Nat
  K : List Int
def St.v (s : St) : Value := if s.cut then .iface 277 (.agg #[.int .i64 (s.n : Int)]) else .iface 275 (.agg #[.slice s.a s.n s.c])
def St.units (s : St) : Nat := if s.cut then 1 else s.n
structure StAt (base : Nat) (w : World) (s : St) : Prop where
  own : s.cut = false → OwnB base w (.slice s.a s.n s.c) s.K
  big : s.n ≤ 140737488355328
/-- Where its bytes lie. -/
def St.bl (s : St) : Option Nat := if s.cut then none else (Value.slice s.a s.n s.c).ownBlock
/-- Its first units done on bytes. -/
def St.on (s : St) (L : List Int) (u : Nat) : List Int := if u = 0 then L else if s.cut then L.take s.n else L ++ s.K.take (min u s.n)

def Tryz.bclone_ren : Go.Shelf.Ren := ⟨fun | 4 => 69 | n => n, fun | 22 => 37 | 4 => 4 | 5 => 5 | n => n, fun | n => n⟩
theorem Tryz.bclone : Go.Proofs.SlLaysK.n4 Tryz.prog Tryz.bclone_ren := {
  mixed := by kernel_rfl
  f4 := Tryz.func69.trans (congrArg some (by kernel_rfl))
  t4 := Tryz.underlying4
  a4 := Tryz.isAgg4
  z4 := Tryz.sizeOf4
  v4 := Tryz.zeroValue4
  t22 := Tryz.underlying37
  a22 := Tryz.isAgg37
  z22 := Tryz.sizeOf37
  v22 := Tryz.zeroValue37
  t5 := Tryz.underlying5
  i5 := by kernel_rfl }
theorem clone_some (a : Addr) (n c : Nat) (K : List Int) (w : World) (h : Holds w (some a) n K) (hbig : n ≤ 140737488355328) :
    Calls Tryz.prog 69 #[.slice (some a) n c] w fun e w' => ∃ v', e = .returned v' ∧ OwnB w.heap.size w' v' K ∧ Below w.heap.size w w' := by
  have hl := h.len
  refine (Any.bytes_Clone_at Tryz.bclone a n c K w hl hbig (fun i hi => h.at i (by omega))).mono ?_
  rintro e w' ⟨v', rfl, ho, _, hb⟩
  exact ⟨v', rfl, by unfold OwnB; rw [hl]; exact ho, hb⟩
theorem clone_nil (w : World) : Calls Tryz.prog 69 #[.slice none 0 0] w fun e w' => e = .returned (.slice none 0 0) ∧ w' = w :=
  Any.bytes_Clone_nil Tryz.bclone 0 0 w
/-- bytes.Clone of a row of one's own. -/
theorem clone_any {base : Nat} (v : Value) (K : List Int) (w : World) (h : OwnB base w v K) (hbig : K.length ≤ 140737488355328) :
    Calls Tryz.prog 69 #[v] w fun e w' => ∃ v', e = .returned v' ∧ OwnB w.heap.size w' v' K ∧ Below w.heap.size w w' := by
  obtain ⟨ao, l, c, rfl⟩ := row_shape h
  have H := Holds.ofRow h
  cases ao with
  | some a => exact clone_some a l c K w H (by have := H.len; omega)
  | none =>
    rcases h.2 with ⟨e, hn⟩ | ⟨g, cap, cur, e, _⟩
    · simp at e; obtain ⟨rfl, rfl⟩ := e
      have hK : K = [] := List.eq_nil_of_length_eq_zero hn
      subst hK
      refine (clone_nil w).mono ?_
      rintro e w' ⟨rfl, rfl⟩
      exact ⟨_, rfl, OwnB.nil _ _, Below.refl _ _⟩
    · simp at e

theorem units_app (a : Option Addr) (n c : Nat) (w : World) : Calls Tryz.prog 292 #[.agg #[.slice a n c]] w fun e w' => e = .returned (.int .i64 n) ∧ Below w.heap.size w w' := by
  go_enter Tryz.func292, Tryz.ntmps292
  go_wp2
  go_ret
  exact ⟨rfl, (Below.refl _ _).alloc (Nat.le_refl _) _⟩
theorem units_cut (v : Value) (w : World) : Calls Tryz.prog 293 #[.agg #[v]] w fun e w' => e = .returned (.int .i64 1) ∧ Below w.heap.size w w' := by
  go_enter Tryz.func293, Tryz.ntmps293
  go_wp2
  go_ret
  exact ⟨rfl, (Below.refl _ _).alloc (Nat.le_refl _) _⟩

theorem is_app (v : Value) (w : World) : (Instr.typeAssert (.iface 275 v) 254 275 true).run Tryz.prog w = .ok (.tuple #[v, .bool true]) w := by kernel_rfl
theorem no_app (v : Value) (w : World) : (Instr.typeAssert (.iface 277 v) 254 275 true).run Tryz.prog w = .ok (.tuple #[.agg #[.slice none 0 0], .bool false]) w := by kernel_rfl
theorem is_cut (v : Value) (w : World) : (Instr.typeAssert (.iface 277 v) 254 277 true).run Tryz.prog w = .ok (.tuple #[v, .bool true]) w := by kernel_rfl
theorem min_pos (u : Int) (n : Nat) (hu : 0 < u) : (min u (n : Int)) = ((min u.toNat n : Nat) : Int) := by omega
/-- doFile of whatever step. -/
theorem doFile_zero (v sv : Value) (u : Int) (w : World) (hu : u ≤ 0) : Calls Tryz.prog 198 #[v, sv, .int .i64 u] w fun e w' => e = .returned v ∧ w' = w := by
  go_enter Tryz.func198, Tryz.ntmps198
  go_wp2
  go_ret
  exact ⟨rfl, rfl⟩
set_option maxHeartbeats 1000000 in
theorem doFile_cut {base : Nat} (ao : Option Addr) (l c : Nat) (L : List Int) (n : Nat) (u : Int) (w : World) (hu : 0 < u) (ho : OwnB base w (.slice ao l c) L) (hn : n ≤ L.length) :
    Calls Tryz.prog 198 #[.slice ao l c, .iface 277 (.agg #[.int .i64 n]), .int .i64 u] w fun e w' => ∃ v', e = .returned v' ∧ OwnB base w' v' (L.take n) ∧ Upd (fun k => (Value.slice ao l c).ownBlock = some k) w w' ∧ Moved w (.slice ao l c) v' := by
  obtain ⟨h1, h2, h3⟩ := own_len ho
  have hk : ¬ (u ≤ 0) := by omega
  have k1 : (0 : Int) ≤ (n : Int) := by omega
  have k2 : (n : Int) ≤ (c : Int) := by omega
  have hb : Below w.heap.size w (w.alloc (.cells #[.int .i64 n] 277)) := (Below.refl _ _).alloc (Nat.le_refl _) _
  have h4 := (ho.below hb).take n hn
  have hm : Moved w (.slice ao l c) (.slice ao n c) := Or.inl (by cases ao <;> rfl)
  generalize L.take n = M at h4 ⊢
  have t1 := no_app
  have t2 := is_cut
  clear ho h1 h2 h3 hn
  go_enter Tryz.func198, Tryz.ntmps198
  go_wp2
  go_ret
  exact ⟨_, rfl, h4, Upd.ofBelow hb (fun k h1 h2 => by omega), hm⟩
set_option maxHeartbeats 1000000 in
theorem doFile_app {base : Nat} (v : Value) (L : List Int) (a : Option Addr) (n c : Nat) (K : List Int) (u : Int) (w : World) (hu : 0 < u) (ho : OwnB base w v L) (hb : base ≤ w.heap.size) (hH : Holds w a n K) (hc : n ≤ c) (hbig : L.length + n ≤ 140737488355328) :
    Calls Tryz.prog 198 #[v, .iface 275 (.agg #[.slice a n c]), .int .i64 u] w fun e w' => ∃ v', e = .returned v' ∧ OwnB base w' v' (L ++ K.take (min u.toNat n)) ∧ Upd (fun k => v.ownBlock = some k) w w' ∧ Moved w v v' := by
  obtain ⟨i0, hi, hz0, hz1, hz2⟩ := info_parts Tryz.info5
  have hk : ¬ (u ≤ 0) := by omega
  obtain ⟨m, hm⟩ : ∃ m, min u.toNat n = m := ⟨_, rfl⟩
  have hm1 : min u (n : Int) = (m : Int) := by omega
  have hm2 : m ≤ n := by omega
  have k1 : (0 : Int) ≤ (m : Int) := by omega
  have k2 : (m : Int) ≤ (c : Int) := by omega
  have hl := hH.len
  rw [hm]
  have b1 : Below w.heap.size w (w.alloc (.cells #[.slice a n c] 275)) := (Below.refl _ _).alloc (Nat.le_refl _) _
  have o1 := ho.below b1
  have s1 := ((hH.below b1).take m hm2).src c
  have hkl : (K.take m).length = m := by simp; omega
  obtain ⟨ao, cp, rfl, _⟩ := ho.shape
  have W : ∀ v' w2, w2.ownsRow base 5 1 v' (L.length + m) (L.map (Value.int .u8) ++ (K.take m).map (Value.int .u8)) → OwnB base w2 v' (L ++ K.take m) := fun v' w2 h => by unfold OwnB; rw [List.length_append, hkl, List.map_append]; exact h
  clear ho hm hu hl hkl hH
  generalize K.take m = M at *
  generalize L ++ M = LM at *
  have t1 := is_app
  go_enter Tryz.func198, Tryz.ntmps198
  go_wp2_with (at_builtin; refine wpList_app _ rfl _ _ 37 37 rfl base 5 i0 (.int .u8 0) 1 Tryz.underlying37 hi hz0 hz1 hz2 rfl (.slice ao L.length cp) L.length _ rfl o1 _ m _ rfl s1 (by unfold maxLen; omega) (by omega) (by rw [World.size_alloc]; omega) ?_; intro v' w2 o2 g2 m2; obtain ⟨ao2, l2, c2, rfl⟩ := row_shape o2)
  go_ret
  exact ⟨_, rfl, W _ _ o2, ((Upd.refl _ _).alloc _).grown g2 (fun _ _ e => e), (Moved.refl _ _).trans b1.size m2⟩
/-- doFile of a step. -/
theorem doFile_any {base : Nat} (v : Value) (L : List Int) (s : St) (u : Nat) (w : World) (ho : OwnB base w v L) (hb : base ≤ w.heap.size) (hs : StAt base w s) (hc : 0 < u → s.cut = true → s.n ≤ L.length) (hbig : L.length + s.units ≤ 140737488355328) :
    Calls Tryz.prog 198 #[v, s.v, .int .i64 u] w fun e w' => ∃ v', e = .returned v' ∧ OwnB base w' v' (s.on L u) ∧ Upd (fun k => v.ownBlock = some k) w w' ∧ Moved w v v' := by
  by_cases hu : u = 0
  · subst hu
    refine (doFile_zero v s.v _ w (by simp)).mono ?_
    rintro e w' ⟨rfl, rfl⟩
    exact ⟨v, rfl, by simpa [St.on] using ho, Upd.refl _ _, Moved.refl _ _⟩
  · unfold St.on
    rw [if_neg hu]
    cases hcut : s.cut with
    | true =>
      have hn := hc (by omega) hcut
      obtain ⟨ao, c, rfl, _⟩ := ho.shape
      unfold St.v
      simp only [hcut, if_true]
      exact doFile_cut ao _ c L s.n u w (by omega) ho hn
    | false =>
      unfold St.units at hbig
      unfold St.v
      simp only [hcut] at hbig ⊢
      have := doFile_app v L s.a s.n s.c s.K u w (by omega) ho hb (hs.own hcut).holds (by have := own_len (hs.own hcut); omega) (by simpa using hbig)
      simpa using this
end Go.Proofs.YtgoafinbaiepmaaGreatDoor
