/-
  Layer 7 (disk): Names.
-/
import Derived.Test.YtgoafinbaiepmaaGreatDoorEa
import Derived.Shelf.SlIter.Nil
import Derived.Shelf.SortM.Plain
import Derived.Shelf.SortM.SortNone
import Derived.Ground.GgzProg
import Derived.Ground.SlgmProg
namespace Go.Proofs.YtgoafinbaiepmaaGreatDoor
open Go.RowKit Go.Maps Go.Sort Go.Shelf
set_option maxRecDepth 100000

shelf_lay_g SlLaysZ.n7 Ggz 7 at Tryz 99 as Tryz.keysN
shelf_lay_g SlLaysZ.n6 Ggz 6 at Tryz 98 as Tryz.sortedN
shelf_lay_g SlLaysM.n6 Slgm 6 at Tryz 158 as Tryz.sortN
theorem sortsN (m : Nat) : AnyZ.SortsIn Tryz.prog Tryz.sortedN_ren Fence.wide m :=
  ⟨fun blk off cap ss W hH hblk hsz => callsIn_wide.2 (AnyM.slices_Sort_string Tryz.sortN blk off cap ss W hH hblk hsz),
   fun p cap W => callsIn_wide.2 (AnyM.slices_Sort_string_none Tryz.sortN p cap W)⟩
theorem keys_any (mb : Option Nat) (W : World) : Calls Tryz.prog 99 #[.map mb] W fun e w' => e = .returned (.func (.func 159) #[] #[.pointer (some ⟨W.heap.size, 0, none⟩)]) ∧ w' = W.alloc (.cells #[.map mb] 91) :=
  (callsIn_wide (n := 5)).1 (AnyZ.keys_in Tryz.keysN Fence.wide 5 trivial rfl mb W)
set_option maxHeartbeats 1000000 in
theorem sorted_any (b nn : Nat) (D0 : DataW Unit) (R : Value → Option (DataW Unit × List MemPlace)) (w : World) (hown : w.ownsMap Tryz.prog 9 R b nn D0) (hmax : Maps.size D0 ≤ maxLen) (hbytes : Maps.size D0 * 16 ≤ 140737488355328) :
    Calls Tryz.prog 98 #[.func (.func 159) #[] #[.pointer (some ⟨w.heap.size, 0, none⟩)]] (w.alloc (.cells #[.map (some b)] 91)) fun e w' => ∃ (v : Value) (ss : List (List UInt8)), e = .returned v ∧ ss.Perm (strKeys D0) ∧
      w'.ownsRow (w.alloc (.cells #[.map (some b)] 91)).heap.size 9 1 v ss.length ((ss.mergeSort (fun x y => decide (x ≤ y))).map encStr) ∧ (v = .slice none 0 0 ↔ ss = []) ∧ Below (w.alloc (.cells #[.map (some b)] 91)).heap.size (w.alloc (.cells #[.map (some b)] 91)) w' := by
  have hbl := hown.lt
  have hseq : SeqGives Fence.wide 2 Tryz.prog 159 #[.pointer (some ⟨w.heap.size, 0, none⟩)] encStr (fun ss => ss.Perm (strKeys D0)) (Maps.size D0) (w.alloc (.cells #[.map (some b)] 91)) :=
    AnyZ.keys_gives (ρ := Tryz.keysN_ren) { Tryz.keysN with } Fence.wide _ trivial rfl (by omega) w.heap.size b nn D0 _ (by simp) (by simp) (by
      obtain ⟨es, clock, hb, Ft, hs, hD⟩ := hown
      exact ⟨es, clock, (Below.heap_alloc _ _ b hbl).trans hb, Ft, hs, hD⟩)
  exact (callsIn_wide (n := 5)).1 (AnyZ.sorted_in Tryz.sortedN Fence.wide 5 trivial trivial trivial trivial rfl (by omega) (sortsN _) (enters_of Tryz.func158 (by kernel_rfl) rfl) 159 #[.pointer (some ⟨w.heap.size, 0, none⟩)] trivial (enters_of Tryz.func159 (by kernel_rfl) rfl) _ _ hmax hbytes _ hseq)
theorem keys_len {D : DataW Unit} (h : Tidy D) : (strKeys D).length = Maps.size D := by
  obtain ⟨es, rfl, _⟩ := h
  show (es.map _).length = es.length
  simp
set_option maxHeartbeats 1000000 in
/-- All names, rising. -/
theorem names_any (base d N : Nat) (K : Dk) (w : World) (h : DiskAt base w d N K) (ho : K.off = false) (hN : N ≤ 1000000000000) :
    Calls Tryz.prog 41 #[.pointer (some ⟨d, 0, none⟩)] w fun e w' => ∃ (a : Option Addr) (c : Nat) (ss : List (List UInt8)), e = .returned (.tuple #[.slice a (Maps.size K.DN) c, .int .i64 0]) ∧ ss.Perm (strKeys K.DN) ∧ w'.ownsRow w.heap.size 9 1 (.slice a (Maps.size K.DN) c) ss.length ((ss.mergeSort (fun x y => decide (x ≤ y))).map encStr) ∧ Below w.heap.size w w' := by
  have c8 := h.cells.c8
  have c2 := h.cells.c2
  rw [ho] at c8
  have hz := h.mN.size_le
  have KY := keys_any (some K.mn) w
  have SR := sorted_any K.mn N K.DN _ w h.mN (by unfold maxLen; omega) (by omega)
  have SH : ∀ (v : Value) (ss : List (List UInt8)) (w' : World), ss.Perm (strKeys K.DN) → w'.ownsRow (w.alloc (.cells #[.map (some K.mn)] 91)).heap.size 9 1 v ss.length ((ss.mergeSort (fun x y => decide (x ≤ y))).map encStr) → Below (w.alloc (.cells #[.map (some K.mn)] 91)).heap.size (w.alloc (.cells #[.map (some K.mn)] 91)) w' → ∃ (a : Option Addr) (c : Nat), v = .slice a (Maps.size K.DN) c ∧ w'.ownsRow w.heap.size 9 1 (.slice a (Maps.size K.DN) c) ss.length ((ss.mergeSort (fun x y => decide (x ≤ y))).map encStr) ∧ Below w.heap.size w w' := by
    intro v ss w' hp ho hb
    obtain ⟨a, l, c, rfl⟩ := row_shape ho
    have hl := (own_len ho).1
    have e : l = Maps.size K.DN := by rw [hl, hp.length_eq, keys_len (h.mN.tidy law_s)]
    subst e
    exact ⟨a, c, rfl, ownsRow_base_a ho (by simp), ((Below.refl _ w).alloc (Nat.le_refl _) _).trans (hb.mono (by simp))⟩
  have HSH : Hid _ := SH
  clear h SH
  go_enter Tryz.func41, Tryz.ntmps41
  go_wp2_with (first
    | (go_at_call 99; refine KY.mono ?_; clear KY; rintro e w1 ⟨rfl, rfl⟩)
    | (go_at_call 98; refine SR.mono ?_; clear SR; rintro e w2 ⟨v, ss, rfl, hp, hrow, hnil, hb⟩; obtain ⟨a, c, rfl, hr2, hb2⟩ := HSH.out _ _ _ hp hrow hb; clear hrow hnil hb))
  go_ret2
  exact ⟨a, c, ss, rfl, hp, hr2, hb2⟩
end Go.Proofs.YtgoafinbaiepmaaGreatDoor
