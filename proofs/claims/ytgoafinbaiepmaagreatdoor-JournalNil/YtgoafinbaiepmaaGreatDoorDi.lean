/-
  Layer 7 (disk): New, doName, step, Create of a.
-/
import Derived.Test.YtgoafinbaiepmaaGreatDoorDh
import Derived.Carry
import Derived.Shelf.Strconv.Clone
import Derived.Shelf.SlMaps.Clone
import Derived.Shelf.SlicesE.Clone
namespace Go.Proofs.YtgoafinbaiepmaaGreatDoor
open Go.RowKit Go.Shelf Go.Maps Go.WideMaps
set_option maxRecDepth 100000

def Tryz.sclone_ren : Go.Shelf.Ren := ⟨fun | 316 => 175 | n => n, fun | 9 => 9 | 3 => 3 | 4 => 4 | 37 => 37 | 0 => 0 | 127 => 303 | 5 => 5 | n => n, fun | n => n⟩
theorem Tryz.sclone : Go.Proofs.LaysM.n316 Tryz.prog Tryz.sclone_ren := {
  mixed := by kernel_rfl
  f316 := Tryz.func175.trans (congrArg some (by kernel_rfl))
  t0 := Tryz.underlying0
  a0 := Tryz.isAgg0
  z0 := Tryz.sizeOf0
  v0 := Tryz.zeroValue0
  t3 := Tryz.underlying3
  a3 := Tryz.isAgg3
  z3 := Tryz.sizeOf3
  v3 := Tryz.zeroValue3
  t4 := Tryz.underlying4
  a4 := Tryz.isAgg4
  z4 := Tryz.sizeOf4
  v4 := Tryz.zeroValue4
  t9 := Tryz.underlying9
  a9 := Tryz.isAgg9
  z9 := Tryz.sizeOf9
  v9 := Tryz.zeroValue9
  t37 := Tryz.underlying37
  a37 := Tryz.isAgg37
  z37 := Tryz.sizeOf37
  v37 := Tryz.zeroValue37
  t127 := Tryz.underlying303
  a127 := Tryz.isAgg303
  z127 := Tryz.sizeOf303
  v127 := Tryz.zeroValue303
  t5 := Tryz.underlying5
  a5 := Tryz.isAgg5
  z5 := Tryz.sizeOf5
  v5 := Tryz.zeroValue5
  i0 := by kernel_rfl
  i3 := by kernel_rfl
  i4 := by kernel_rfl
  i5 := by kernel_rfl
  i9 := by kernel_rfl
  i37 := by kernel_rfl
  i127 := by kernel_rfl }
theorem sclone_any (s : ByteArray) (w : World) (hs : s.size ≤ 281474976710656) : Calls Tryz.prog 138 #[.string s] w fun e w' => e = .returned (.string s) ∧ Below w.heap.size w w' := by
  have C := Any.stringslite_Clone Tryz.sclone s w hs
  change Calls Tryz.prog 175 _ _ _ at C
  go_enter Tryz.func138, Tryz.ntmps138
  go_wp2_with (go_at_call 175; refine C.mono ?_; rintro e w' ⟨rfl, b⟩)
  go_ret
  exact ⟨rfl, b⟩
theorem new_any (w : World) : Calls Tryz.prog 11 #[] w fun e w' => e = .returned (.pointer (some ⟨w.heap.size + 3, 0, none⟩)) ∧ DiskAt w.heap.size w' (w.heap.size + 3) 0 ⟨w.heap.size, w.heap.size + 1, w.heap.size + 2, 0, .slice none 0 0, [], 0, 0, 0, false, .map [], .map [], .map []⟩ ∧ Below w.heap.size w w' := by
  have R : DiskAt w.heap.size ((((w.alloc (.map #[] 0)).alloc (.map #[] 0)).alloc (.map #[] 0)).alloc (.cells (⟨w.heap.size, w.heap.size + 1, w.heap.size + 2, 0, .slice none 0 0, [], 0, 0, 0, false, .map [], .map [], .map []⟩ : Dk).cells 96)) (w.heap.size + 3) 0 ⟨w.heap.size, w.heap.size + 1, w.heap.size + 2, 0, .slice none 0 0, [], 0, 0, 0, false, .map [], .map [], .map []⟩ ∧ Below w.heap.size w ((((w.alloc (.map #[] 0)).alloc (.map #[] 0)).alloc (.map #[] 0)).alloc (.cells (⟨w.heap.size, w.heap.size + 1, w.heap.size + 2, 0, .slice none 0 0, [], 0, 0, 0, false, .map [], .map [], .map []⟩ : Dk).cells 96)) := by
    have m1 := World.ownsMap_made (H := Unit) w Tryz.prog 3 ptrR
    have m2 := World.ownsMap_made (H := Unit) (w.alloc (.map #[] 0)) Tryz.prog 9 (plainElem (H := Unit) Tryz.prog 3)
    have m3 := World.ownsMap_made (H := Unit) ((w.alloc (.map #[] 0)).alloc (.map #[] 0)) Tryz.prog 9 (plainElem (H := Unit) Tryz.prog 3)
    have e1 : (w.alloc (.map #[] 0)).heap.size = w.heap.size + 1 := by simp
    have e2 : ((w.alloc (.map #[] 0)).alloc (.map #[] 0)).heap.size = w.heap.size + 2 := by simp
    have e3 : (((w.alloc (.map #[] 0)).alloc (.map #[] 0)).alloc (.map #[] 0)).heap.size = w.heap.size + 3 := by simp
    rw [e1] at m2
    rw [e2] at m3
    refine ⟨⟨?_, ((m1.alloc _).alloc _).alloc _, (m2.alloc _).alloc _, m3.alloc _, World.ownsRow_nil _ _ _ _, by simp only; omega, by simp only; omega, by simp only; omega, by simp only; omega⟩, ?_⟩
    · have := heap_alloc_new (((w.alloc (.map #[] 0)).alloc (.map #[] 0)).alloc (.map #[] 0)) (.cells (⟨w.heap.size, w.heap.size + 1, w.heap.size + 2, 0, .slice none 0 0, [], 0, 0, 0, false, .map [], .map [], .map []⟩ : Dk).cells 96)
      rw [e3] at this
      exact this
    · exact ((((Below.refl _ _).alloc (Nat.le_refl _) _).alloc (by omega) _).alloc (by omega) _).alloc (by omega) _
  have hmm := @run_makeMap Tryz.prog
  go_enter Tryz.func11, Tryz.ntmps11
  go_wp2
  go_ret
  exact ⟨rfl, R⟩

theorem Tryz.info128 : (Tryz.prog.info? 128).map (fun i => (i.zero, i.size, i.bytes)) = some (some .nilIface, 1, 16) := by kernel_rfl
theorem is_created (v : Value) (w : World) : (Instr.typeAssert (.iface 211 v) 128 211 true).run Tryz.prog w = .ok (.tuple #[v, .bool true]) w := by kernel_rfl
theorem turned_upd {w w' : World} {b : Nat} (h : w.mapTurned w' b) : Upd (fun k => k = b) w w' :=
  (Upd.refl _ _).grown h.grown (fun _ _ e => (Option.some.inj e).symm)
/-- The step of a Create. -/
def crV (s : ByteArray) (n : Nat) : Value := .iface 211 (.agg #[.string s, .int .i64 (n : Int)])
set_option maxHeartbeats 1000000 in
theorem doName_created (m N : Nat) (D : DataW Unit) (s : ByteArray) (n : Nat) (w : World) (h : w.ownsMap Tryz.prog 9 (plainElem (H := Unit) Tryz.prog 3) m N D) (hs : s.size ≤ maxLen) (hn : n < 9223372036854775808) (hN : N < maxLen) :
    Calls Tryz.prog 57 #[.map (some m), crV s n] w fun e w' => e = .returned (.tuple #[.int .i64 0, .bool false]) ∧ w'.ownsMap Tryz.prog 9 (plainElem (H := Unit) Tryz.prog 3) m (N + 1) (D.put (.string s.data.toList) (.lit (.int .i64 (n : Int)))) ∧ Upd (fun k => k = m) w w' := by
  have t1 := is_created
  have hkey := keyOf_string_mk (P := Tryz.prog) Tryz.underlying9 hs
  have hval := plainElem_int (H := Unit) (P := Tryz.prog) Tryz.underlying3 (wf_i64 n hn)
  have h1 := h.alloc (.cells #[.string s, .int .i64 (n : Int)] 211)
  obtain ⟨w2, hrun, o2, u2⟩ := h1.store law_s Tryz.underlying91 hN hkey hval
  have U : Upd (fun k => k = m) w w2 := ((Upd.refl _ _).alloc _).trans (turned_upd u2) (fun _ _ h => h)
  unfold crV
  clear h h1 hkey hval u2
  go_enter Tryz.func57, Tryz.ntmps57
  go_wp2
  go_ret2
  exact ⟨rfl, o2, U⟩
theorem crV_one (s : ByteArray) (n : Nat) : (crV s n).oneCell' = true := rfl
theorem cells_set4 (K : Dk) (v : Value) : K.cells.setIfInBounds 4 v = ({ K with sv := v } : Dk).cells := rfl
theorem cells_set1 (K : Dk) (n : Nat) : K.cells.setIfInBounds 1 (.int .i64 (n : Int)) = ({ K with cr := n } : Dk).cells := rfl
theorem map_not {w : World} {k : TypeId} {R : Value → Option (DataW Unit × List MemPlace)} {b n : Nat} {D : DataW Unit} (h : w.ownsMap Tryz.prog k R b n D) {c : Nat} {cs : Array Value} {t : TypeId} {fz : Nat × Nat} (hc : w.heap[c]? = some (.cells cs t fz)) : c ≠ b := by
  rintro rfl
  obtain ⟨es, x, hb⟩ := map_block h
  rw [hb] at hc
  simp at hc
theorem own_map {base : Nat} {w : World} {e : TypeId} {size : Nat} {v : Value} {n : Nat} {xs : List Value} (ho : w.ownsRow base e size v n xs) {k : TypeId} {R : Value → Option (DataW Unit × List MemPlace)} {b m : Nat} {D : DataW Unit} (h : w.ownsMap Tryz.prog k R b m D) : v.ownBlock ≠ some b := by
  obtain ⟨es, x, hb⟩ := map_block h
  exact own_not ho hb (fun cs h => by simp at h)
/-- What step leaves. -/
def Stepped (base d N : Nat) (K : Dk) (x : Value) (DN : DataW Unit) (w w' : World) : Prop := ∃ sv, DiskAt base w' d (N + 1) { K with sv := sv, ns := K.ns ++ [x], DN := DN } ∧ Upd (DW d K) w w'
set_option maxHeartbeats 1000000 in
theorem step_created (base d N : Nat) (K : Dk) (s : ByteArray) (n : Nat) (w : World) (h : DiskAt base w d N K) (hb : base ≤ w.heap.size) (hs : s.size ≤ maxLen) (hn : n < 9223372036854775808) (hN : N < maxLen) (hmany : K.ns.length ≤ 1000000000000) :
    Calls Tryz.prog 137 #[.pointer (some ⟨d, 0, none⟩), crV s n] w fun e w' => e = .returned (.tuple #[]) ∧ Stepped base d N K (crV s n) (K.DN.put (.string s.data.toList) (.lit (.int .i64 (n : Int)))) w w' := by
  obtain ⟨i0, hi, hz0, hz1, hz2⟩ := info_parts Tryz.info128
  have DO := doName_created K.mn N K.DN s n w h.mN hs hn hN
  obtain ⟨c0, c1, c2, c3, c4, c5, c6, c7, c8⟩ := h.cells
  obtain ⟨ao, l, c, hsv⟩ := row_shape h.sown
  have hso := h.sown
  rw [hsv] at hso
  obtain ⟨e1, _, _⟩ := own_len hso
  have nd : d ≠ K.mn := map_not h.mN h.block
  have nsd : K.sv.ownBlock ≠ some d := own_not h.sown h.block (fun cs h => by simp at h)
  have K1 : ∀ w1, Upd (fun k => k = K.mn) w w1 → w1.heap[d]? = some (.cells K.cells 96 (0, 0)) ∧ ∀ x, (w1.alloc x).ownsRow base 128 1 K.sv K.ns.length K.ns := fun w1 u => by
    refine ⟨(u.block d (lt_of_block h.block) nd).trans h.block, fun x => ?_⟩
    exact ownsRow_upd h.sown (u.alloc x) (fun k e hh => by subst hh; exact own_map h.sown h.mN e)
  have END : ∀ (w1 w2 : World) (sv : Value) (x : Obj), w1.ownsMap Tryz.prog 9 (plainElem (H := Unit) Tryz.prog 3) K.mn (N + 1) (K.DN.put (.string s.data.toList) (.lit (.int .i64 (n : Int)))) → Upd (fun k => k = K.mn) w w1 → w2.ownsRow base 128 1 sv (K.ns.length + 1) (K.ns ++ [crV s n]) → (w1.alloc x).grownBy w2 K.sv.ownBlock → Moved (w1.alloc x) K.sv sv → Stepped base d N K (crV s n) (K.DN.put (.string s.data.toList) (.lit (.int .i64 (n : Int)))) w (w2.setCell ⟨d, 4, none⟩ sv) := by
    intro w1 w2 sv x o1 u1 o2 g2 m2
    have hs1 := u1.size
    have U2 : Upd (fun k => k = K.mn ∨ K.sv.ownBlock = some k) w w2 := ((u1.mono (S' := fun k => k = K.mn ∨ K.sv.ownBlock = some k) (fun _ _ h => Or.inl h)).alloc x).grown g2 (fun k _ e => Or.inr e)
    have U3 : Upd (fun k => k = d ∨ k = K.mn ∨ K.sv.ownBlock = some k) w (w2.setCell ⟨d, 4, none⟩ sv) := (U2.mono (S' := fun k => k = d ∨ k = K.mn ∨ K.sv.ownBlock = some k) (fun _ _ h => Or.inr h)).setCell (p := ⟨d, 4, none⟩) (fun _ => Or.inl rfl) sv
    have U13 : Upd (fun k => k = d ∨ K.sv.ownBlock = some k) w1 (w2.setCell ⟨d, 4, none⟩ sv) := (((Upd.refl (fun k => k = d ∨ K.sv.ownBlock = some k) w1).alloc x).grown g2 (fun k _ e => Or.inr e)).setCell (p := ⟨d, 4, none⟩) (fun _ => Or.inl rfl) sv
    have k2 : w2.heap[d]? = some (.cells K.cells 96 (0, 0)) := (U2.block d (lt_of_block h.block) (fun hh => hh.elim nd nsd)).trans h.block
    have k3 := blk_set k2 4 sv
    rw [cells_set4] at k3
    have m3 : Moved w K.sv sv := (Moved.refl w K.sv).trans (by rw [World.size_alloc]; omega) m2
    have nd' : sv.ownBlock ≠ some d := fun e => (m3.old e).elim nsd (fun h' => by have := lt_of_block h.block; omega)
    have ndf : d ≠ K.mf := map_not h.mF h.block
    have ndl : d ≠ K.ml := map_not h.mL h.block
    refine ⟨sv, ⟨k3, (map_upd h.mF U3 ?_).mono (by omega), map_upd o1 U13 ?_, (map_upd h.mL U3 ?_).mono (by omega), ?_, h.n1, h.n2, h.n3, h.low⟩, U3.mono (fun k _ hh => ?_)⟩
    · rintro (hh | hh | hh)
      · exact ndf hh.symm
      · exact h.n1 hh
      · exact own_map h.sown h.mF hh
    · rintro (hh | hh)
      · exact nd hh.symm
      · exact own_map h.sown h.mN hh
    · rintro (hh | hh | hh)
      · exact ndl hh.symm
      · exact h.n3 hh.symm
      · exact own_map h.sown h.mL hh
    · have := ownsRow_upd o2 ((Upd.refl (fun k => k = d) w2).setCell (p := ⟨d, 4, none⟩) (fun _ => rfl) sv) (fun k e hh => by subst hh; exact nd' e)
      simpa using this
    · rcases hh with hh | hh | hh
      · exact Or.inl hh
      · exact Or.inr (Or.inr (Or.inl hh))
      · exact Or.inr (Or.inr (Or.inr (Or.inr hh)))
  have hlS : K.ns.length + 1 ≤ maxLen := by unfold maxLen; omega
  have hlS2 : (K.ns.length + 1) * 16 ≤ 140737488355328 := by omega
  have hone := crV_one s n
  have HE : Hid _ := END
  have HK1 : Hid _ := K1
  clear END K1 h hso
  generalize Stepped base d N K (crV s n) (K.DN.put (.string s.data.toList) (.lit (.int .i64 (n : Int)))) w = R at *
  generalize K.DN.put (.string s.data.toList) (.lit (.int .i64 (n : Int))) = DP at *
  rw [hsv] at c4 nsd
  rw [e1] at c4 nsd
  generalize hx : crV s n = xv at *
  have hif : ∃ g y, xv = .iface g y := ⟨_, _, hx.symm⟩
  obtain ⟨xg, xy, rfl⟩ := hif
  clear hx
  go_enter Tryz.func137, Tryz.ntmps137
  go_wp2_with (first
    | (go_at_call 57; refine DO.mono ?_; clear DO; rintro e w1 ⟨rfl, o1, u1⟩; obtain ⟨k1, r1⟩ := HK1.out _ u1; have d4 := blk_cell k1 4 (v := .slice ao K.ns.length c) (by rw [← e1, ← hsv]; rfl); have R1 := r1 (.cells #[.iface xg xy] 128); rw [hsv, e1] at R1)
    | (at_builtin; refine wpList_app _ rfl _ _ 92 92 rfl base 128 i0 .nilIface 16 Tryz.underlying92 hi hz0 hz1 hz2 rfl (.slice ao K.ns.length c) K.ns.length K.ns rfl R1 _ 1 [.iface xg xy] rfl (src_one Tryz.underlying92 _ _ _ hone) hlS hlS2 (by rw [World.size_alloc]; have := u1.size; omega) ?_; intro v2 w2 o2 g2 m2; have EN := HE.out w1 w2 v2 _ o1 u1 o2 (by rw [hsv, e1]; exact g2) (by rw [hsv, e1]; exact m2); obtain ⟨ao2, l2, c2', rfl⟩ := row_shape o2; have k2 := (g2.block d (by rw [World.size_alloc]; have := lt_of_block k1; omega) (fun e => nsd e.symm)).trans ((Below.heap_alloc _ _ _ (lt_of_block k1)).trans k1); have y4 := blk_cell k2 4 (v := .slice ao K.ns.length c) (by rw [← e1, ← hsv]; rfl); have f4 := free3 k2 4))
  go_returns
  exact ⟨rfl, EN⟩
end Go.Proofs.YtgoafinbaiepmaaGreatDoor
