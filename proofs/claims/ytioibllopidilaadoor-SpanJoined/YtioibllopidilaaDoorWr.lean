/-
  Contracts: the Writer.
-/
import Derived.Test.YtioibllopidilaaDoorWn
import Derived.Test.YtioibllopidilaaDoorMem
import Derived.Laws.CopyOwn
import Derived.BigQuiet
namespace Go.Proofs.YtioibllopidilaaDoor
open Go.RowKit
set_option maxRecDepth 100000
theorem Tryd.info5 : (Tryd.prog.info? 5).map (fun i => (i.zero, i.size, i.bytes)) = some (some (.int .u8 0), 1, 1) := by kernel_rfl

/-- A block with a Writer: its one field is v; v owns the bytes L. -/
structure IsW (base : Nat) (w : World) (B : Nat) (v : Value) (L : List Int) : Prop where
  block : w.heap[B]? = some (.cells #[v] 104 (0, 0))
  own : w.ownsRow base 5 1 v L.length (L.map (Value.int .u8))

theorem IsW.apart {base B : Nat} {w : World} {v : Value} {L : List Int} (h : IsW base w B v L) : v.ownBlock ≠ some B := by
  intro e
  rcases h.own.2 with ⟨rfl, _⟩ | ⟨g, cap, cur, rfl, _, hg, _⟩
  · simp [Value.ownBlock] at e
  · simp [Value.ownBlock] at e
    subst e
    rw [h.block] at hg
    simp at hg
theorem IsW.upd {base B : Nat} {w w' : World} {v : Value} {L : List Int} {S : Nat → Prop} (h : IsW base w B v L) (hu : Upd S w w') (hB : ¬ S B) (hv : ∀ k, v.ownBlock = some k → ¬ S k) : IsW base w' B v L :=
  ⟨(hu.block B (lt_of_block h.block) hB).trans h.block, ownsRow_upd h.own hu hv⟩

theorem newWriter_any (base : Nat) (w : World) :
    Calls Tryd.prog 28 #[] w fun e w' => e = .returned (.pointer (some ⟨w.heap.size, 0, none⟩)) ∧ IsW base w' w.heap.size (.slice none 0 0) [] ∧ w' = w.alloc (.cells #[.slice none 0 0] 104) := by
  go_enter Tryd.func28, Tryd.ntmps28
  go_wp2
  go_ret
  exact ⟨rfl, ⟨heap_alloc_new w _, World.ownsRow_nil _ _ _ _⟩, rfl⟩

theorem row_shape {base : Nat} {w : World} {e : TypeId} {size n : Nat} {v : Value} {xs : List Value} (h : w.ownsRow base e size v n xs) : ∃ ao l c, v = .slice ao l c := by
  rcases h.2 with ⟨rfl, _⟩ | ⟨g, cap, cur, rfl, _⟩
  · exact ⟨_, _, _, rfl⟩
  · exact ⟨_, _, _, rfl⟩

/-- What one append to the field does. -/
theorem put_step {base B : Nat} {w w1 w2 : World} {v v' : Value} {L : List Int} {K : List Int} {o : Option Obj} (h : IsW base w B v L)
    (h1 : w1 = match o with | some o => w.alloc o | none => w) (ho : w2.ownsRow base 5 1 v' (L.length + K.length) (L.map (Value.int .u8) ++ K.map (Value.int .u8))) (hg : w1.grownBy w2 v.ownBlock) (hm : Moved w1 v v') :
    IsW base (w2.setCell ⟨B, 0, none⟩ v') B v' (L ++ K) ∧ Upd (fun k => k = B ∨ v.ownBlock = some k) w (w2.setCell ⟨B, 0, none⟩ v') ∧ Moved w v v' ∧ w2.heap[B]? = some (.cells #[v] 104 (0, 0)) := by
  have u1 : Upd (fun k => k = B ∨ v.ownBlock = some k) w w1 := by
    subst h1; cases o with
    | some o => exact (Upd.refl _ _).alloc o
    | none => exact Upd.refl _ _
  have hs1 : w.heap.size ≤ w1.heap.size := u1.size
  have hB := lt_of_block h.block
  have hb1 : w1.heap[B]? = some (.cells #[v] 104 (0, 0)) := by
    subst h1; cases o with
    | some o => exact (Below.heap_alloc w o B hB).trans h.block
    | none => exact h.block
  have hb2 : w2.heap[B]? = some (.cells #[v] 104 (0, 0)) := (hg.block B (by omega) (fun e => h.apart e.symm)).trans hb1
  have hm' : Moved w v v' := (Moved.refl w v).trans hs1 hm
  have hne : v'.ownBlock ≠ some B := by
    rcases hm' with e | ⟨k, e, hk⟩
    · rw [e]; exact h.apart
    · rw [e]; intro e'; simp at e'; omega
  refine ⟨⟨one_setCell hb2, ?_⟩, ?_, hm', hb2⟩
  · have := ownsRow_setCell_other (a := ⟨B, 0, none⟩) ho hne v'
    simpa using this
  · exact (u1.grown hg (fun k _ e => Or.inr e)).setCell (fun _ => Or.inl rfl) _

/-- A string's bytes, as numbers. -/
def bytesI (s : ByteArray) : List Int := s.data.toList.map fun b => (b.toNat : Int)
theorem bytesI_length (s : ByteArray) : (bytesI s).length = s.size := by unfold bytesI; rw [List.length_map, Array.length_toList]; rfl
theorem bytesI_cells (s : ByteArray) : (bytesI s).map (Value.int .u8) = byteCells s := by unfold bytesI byteCells; rw [List.map_map]; rfl

theorem moved_S {w : World} {v vr : Value} {B k : Nat} (hM : Moved w v vr) (hS : k = B ∨ vr.ownBlock = some k) (hk : k < w.heap.size) : k = B ∨ v.ownBlock = some k := by
  rcases hS with h | h
  · exact Or.inl h
  · rcases hM with e | ⟨j, e, hj⟩
    · exact Or.inr (e ▸ h)
    · rw [h] at e; simp at e; omega

theorem uint_any (base B : Nat) (v : Value) (L : List Int) (u : Nat) (hu : u < 18446744073709551616) (w : World) (h : IsW base w B v L) (hb : base ≤ w.heap.size) (hlen : L.length + (encN u).length ≤ 140737488355328) :
    Calls Tryd.prog 31 #[.pointer (some ⟨B, 0, none⟩), .int .u64 u] w fun e w' => e = .returned (.tuple #[]) ∧ ∃ v', IsW base w' B v' (L ++ encN u) ∧ Upd (fun k => k = B ∨ v.ownBlock = some k) w w' ∧ Moved w v v' := by
  obtain ⟨i0, hi, hz0, hz1, hz2⟩ := info_parts Tryd.info5
  go_enter Tryd.func31, Tryd.ntmps31
  go_wp2
  go_loopw [1] (fun t wr => ∃ (n : Nat) (K : List Int) (vr : Value), t = .int .u64 n ∧ n < 18446744073709551616 ∧ K ++ encN n = encN u ∧ IsW base wr B vr (L ++ K) ∧ Upd (fun k => k = B ∨ v.ownBlock = some k) w wr ∧ Moved w v vr) (fun t _ => (intOf t).toNat)
  case atStart => exact ⟨u, [], v, rfl, hu, rfl, by simpa using h, Upd.refl _ _, Moved.refl _ _⟩
  case round =>
    obtain ⟨n, K, vr, rfl, hn, hK, hW, hU, hM⟩ := hrel
    have hcell := cell_of_one hW.block
    have hfree := free_of_one hW.block
    have hsz := hU.size
    have hlK : K.length + (encN n).length = (encN u).length := by rw [← hK]; simp
    have hl1 := encN_pos n
    by_cases hlt : 127 < n
    · have e1 := and_u64_127 (n : Int) (by omega) (by omega)
      have e2 := or_u8_128 ((n : Int) % 128) (by omega) (by omega)
      go_wp2_with (at_builtin; refine wpList_app _ rfl (.tmp 10) (.tmp 15) 42 42 rfl base 5 i0 (.int .u8 0) 1 Tryd.underlying42 hi hz0 hz1 hz2 rfl _ _ _ rfl (hW.own.alloc _) _ 1 [.int .u8 ((n : Int) % 128 + 128)] rfl (Src.ofSlice _ Tryd.underlying42 ⟨wr.heap.size, 0, none⟩ 1 1 _ rfl ?c1 ?c2) ?c3 ?c4 ?c5 ?_)
      case c1 =>
        intro j u hj
        match j, hj with
        | 0, hj => simp at hj; subst hj; simp [Addr.add]
      case c2 => intro u hu; simp at hu; subst hu; rfl
      case c3 => unfold maxLen; simp; omega
      case c4 => simp; omega
      case c5 => simp; omega
      intro v' w2 ho hg hm
      obtain ⟨ao, l, c, rfl⟩ := row_shape ho
      obtain ⟨R1, R2, R3, R4⟩ := put_step (o := some _) (K := [(n : Int) % 128 + 128]) hW rfl (by simpa using ho) hg hm
      have hcell2 := cell_of_one R4
      have hfree2 := free_of_one R4
      clear ho hg hm hcell hfree R4 e1 e2
      go_wp2
      go_roundw
      case rel => exact ⟨n / 128, K ++ [(n : Int) % 128 + 128], _, by go_num, by omega, by rw [← hK, encN_ge (v := n) (by omega)]; simp, by simpa using R1, hU.trans R2 (fun k hk hS => moved_S hM hS hk), hM.trans hsz R3⟩
      case measure => simp [intOf]; omega
    · go_wp2_with (at_builtin; refine wpList_app _ rfl (.tmp 25) (.tmp 28) 42 42 rfl base 5 i0 (.int .u8 0) 1 Tryd.underlying42 hi hz0 hz1 hz2 rfl _ _ _ rfl (hW.own.alloc _) _ 1 [.int .u8 (n : Int)] rfl (Src.ofSlice _ Tryd.underlying42 ⟨wr.heap.size, 0, none⟩ 1 1 _ rfl ?d1 ?d2) ?d3 ?d4 ?d5 ?_)
      case d1 =>
        intro j u hj
        match j, hj with
        | 0, hj => simp at hj; subst hj; simp [Addr.add]
      case d2 => intro u hu; simp at hu; subst hu; rfl
      case d3 => unfold maxLen; simp; omega
      case d4 => simp; omega
      case d5 => simp; omega
      intro v' w2 ho hg hm
      obtain ⟨ao, l, c, rfl⟩ := row_shape ho
      obtain ⟨R1, R2, R3, R4⟩ := put_step (o := some _) (K := [(n : Int)]) hW rfl (by simpa using ho) hg hm
      have hcell2 := cell_of_one R4
      have hfree2 := free_of_one R4
      clear ho hg hm hcell hfree R4
      go_wp2
      go_end0
      exact ⟨rfl, _, by rw [← hK, encN_lt (by omega)]; simpa using R1, hU.trans R2 (fun k hk hS => moved_S hM hS hk), hM.trans hsz R3⟩

theorem int_any (base B : Nat) (v : Value) (L : List Int) (x : Int) (h0 : -9223372036854775808 ≤ x) (h1 : x ≤ 9223372036854775807) (w : World) (h : IsW base w B v L) (hb : base ≤ w.heap.size) (hlen : L.length + (encN (zigI x).toNat).length ≤ 140737488355328) :
    Calls Tryd.prog 54 #[.pointer (some ⟨B, 0, none⟩), .int .i64 x] w fun e w' => e = .returned (.tuple #[]) ∧ ∃ v', IsW base w' B v' (L ++ encN (zigI x).toNat) ∧ Upd (fun k => k = B ∨ v.ownBlock = some k) w w' ∧ Moved w v v' := by
  have hz0 := zig_lo x
  have hz1 := zig_hi x h0 h1
  obtain ⟨u, hu⟩ : ∃ u : Nat, zigI x = (u : Int) := ⟨(zigI x).toNat, by omega⟩
  have hu' : (zigI x).toNat = u := by omega
  rw [hu'] at hlen ⊢
  have HU : Hid ((u : Int) = zigI x) := hu.symm
  have Z := zig_any x h0 h1
  rw [hu] at Z
  have hu2 : u < 18446744073709551616 := by omega
  clear hu hu' hz0 hz1
  go_enter Tryd.func54, Tryd.ntmps54
  go_wp2_with (first | (go_at_call 76; refine (Z _).mono ?_; rintro e w' ⟨rfl, rfl⟩) | (go_at_call 31; refine (uint_any base B v L u hu2 _ h hb hlen).mono ?_; rintro e w' ⟨rfl, hpost⟩))
  go_end0
  exact ⟨rfl, hpost⟩

theorem text_any (base B : Nat) (v : Value) (L : List Int) (s : ByteArray) (hs : s.size ≤ maxLen) (w : World) (h : IsW base w B v L) (hb : base ≤ w.heap.size) (hlen : L.length + (encN s.size).length + s.size ≤ 140737488355328) :
    Calls Tryd.prog 32 #[.pointer (some ⟨B, 0, none⟩), .string s] w fun e w' => e = .returned (.tuple #[]) ∧ ∃ v', IsW base w' B v' (L ++ encN s.size ++ bytesI s) ∧ Upd (fun k => k = B ∨ v.ownBlock = some k) w w' ∧ Moved w v v' := by
  obtain ⟨i0, hi, hz0, hz1, hz2⟩ := info_parts Tryd.info5
  unfold maxLen at hs
  go_enter Tryd.func32, Tryd.ntmps32
  go_wp2_with (first
    | (go_at_call 31; refine (uint_any base B v L s.size (by omega) _ h hb (by omega)).mono ?_; rintro e wr ⟨rfl, vr, hW, hU, hM⟩; have hcell := cell_of_one hW.block; have hfree := free_of_one hW.block; have hsz := hU.size)
    | (at_builtin; refine wpList_app _ rfl (.tmp 13) (.tmp 14) 42 9 rfl base 5 i0 (.int .u8 0) 1 Tryd.underlying42 hi hz0 hz1 hz2 rfl _ _ _ rfl hW.own _ s.size (byteCells s) rfl (Src.ofString _ Tryd.underlying9 s) ?c3 ?c4 ?c5 ?_))
  case c3 => unfold maxLen; simp; omega
  case c4 => simp; omega
  case c5 => omega
  intro v' w2 ho hg hm
  obtain ⟨ao, l, c, rfl⟩ := row_shape ho
  obtain ⟨R1, R2, R3, R4⟩ := put_step (o := none) (K := bytesI s) hW rfl (by rw [bytesI_cells, bytesI_length]; simpa using ho) hg hm
  have hcell2 := cell_of_one R4
  have hfree2 := free_of_one R4
  clear ho hg hm hcell hfree R4
  go_wp2
  go_end0
  exact ⟨rfl, _, R1, hU.trans R2 (fun k hk hS => moved_S hM hS hk), hM.trans hsz R3⟩
end Go.Proofs.YtioibllopidilaaDoor
