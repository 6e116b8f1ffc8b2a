/-
  Contracts: a frame's head.
-/
import Derived.Test.YtgoafinbaiepmaaGreatDoorFrNu
import Derived.Laws.BytesString
import Derived.Laws.Strings2
import Derived.Lib.IndexBytes
import Derived.RegionTactic
import Derived.ChangeAlike
namespace Go.Proofs.YtgoafinbaiepmaaGreatDoor.fr
open Go.RowKit
set_option maxRecDepth 100000

/-- Bytes as a string. -/
def strI (K : List Int) : ByteArray := ⟨(K.map (fun n => UInt8.ofNat n.toNat)).toArray⟩
theorem strI_fold (K : List Int) : ∀ s : ByteArray, K.foldl (fun r n => r.push (UInt8.ofNat n.toNat)) s = ⟨s.data ++ (K.map (fun n => UInt8.ofNat n.toNat)).toArray⟩ := by
  induction K with
  | nil => intro s; simp
  | cons x r ih =>
    intro s
    rw [List.foldl_cons, ih]
    simp [ByteArray.push]
theorem strI_size (K : List Int) : (strI K).size = K.length := by show (K.map _).toArray.size = _; simp
theorem strI_list (K : List Int) : (strI K).toList = K.map (fun n => UInt8.ofNat n.toNat) := by
  rw [Lib.toList_data]; simp [strI]
theorem strI_inj {K L : List Int} (hK : ByteL K) (hL : ByteL L) (h : strI K = strI L) : K = L := by
  have h1 : (K.map (fun n => UInt8.ofNat n.toNat)) = (L.map (fun n => UInt8.ofNat n.toNat)) := by
    have := congrArg (fun b : ByteArray => b.data.toList) h
    simpa [strI] using this
  have hl : K.length = L.length := by simpa using congrArg List.length h1
  apply List.ext_getElem hl
  intro i hi hi'
  have h2 : (K.map (fun n => UInt8.ofNat n.toNat))[i]? = (L.map (fun n => UInt8.ofNat n.toNat))[i]? := by rw [h1]
  simp [hi, hi'] at h2
  have a := hK _ (List.getElem_mem hi)
  have b := hL _ (List.getElem_mem hi')
  have h3 := congrArg UInt8.toNat h2
  simp at h3
  omega
theorem str_ne {K L : List Int} (hK : ByteL K) (hL : ByteL L) (h : K ≠ L) : ((strI K).toList == (strI L).toList) = false := by
  apply beq_eq_false_iff_ne.2
  intro e
  apply h
  apply strI_inj hK hL
  have h1 : (strI K).data.toList = (strI L).data.toList := by rw [← Lib.toList_data, ← Lib.toList_data]; exact e
  have h2 : (strI K).data = (strI L).data := Array.ext' h1
  cases hk : strI K; cases hl : strI L
  rw [hk, hl] at h2
  simp at h2; rw [h2]
theorem spr_list : (strI [83, 80, 82]).toList = [83, 80, 82] := by rw [strI_list]; rfl
theorem conv_holds {w : World} {ad : Option Addr} {n : Nat} {K : List Int} (h : Holds w ad n K) (c : Nat) : (convert 37 9 (.slice ad n c)).run Tryz.prog w = .ok (.string (strI K)) w := by
  have hl := h.len
  subst hl
  rw [run_convert_bytes_string w 37 9 5 _ _ _ Tryz.underlying37 Tryz.underlying5 Tryz.underlying9]
  cases ad with
  | none =>
    have : K = [] := by
      by_cases h0 : 0 < K.length
      · obtain ⟨b, o, e⟩ := h.some_of h0; cases e
      · exact List.eq_nil_of_length_eq_zero (by omega)
    subst this
    simp [Conv.bytesToString, strI]
    rfl
  | some a =>
    rw [run_bytesToString w a K.length c K]
    · rw [strI_fold]; simp [strI]
    · have := run_firstCells_some (P := Tryz.prog) w 1 K.length a K.length c (K.map (Value.int .u8)) (by simp) (fun j u hj => by
        obtain ⟨a, ha, hc⟩ := h.cells j u hj
        simp at ha; subst ha; exact hc)
      simpa [Builtin.firstCells] using this
theorem Holds.drewN {w : World} {ad : Option Addr} {n : Nat} {K : List Int} (h : Holds w ad n K) (m : Nat) : Holds (w.drewN m) ad n K := h.mono (fun _ _ hc _ => hc)
theorem Holds.drew {w : World} {ad : Option Addr} {n : Nat} {K : List Int} (h : Holds w ad n K) : Holds w.drew ad n K := h.mono (fun _ _ hc _ => hc)

/-- Part of bytes. -/
def part (K : List Int) (i m : Nat) : List Int := (K.drop i).take m
/-- Is a head right? -/
def RightH (K : List Int) : Prop := K.take 3 = [83, 80, 82] ∧ (1 ≤ K.getD 3 0 ∧ K.getD 3 0 ≤ 9) ∧ numI (part K 12 4) ≤ 1048576 ∧ sumI (part K 20 4) = (moreB 0#32 (K.take 20)).toNat
/-- A head's value. -/
def headV (kind : Int) (seq len sum : Nat) : Value := .agg #[.int .i64 kind, .int .u64 seq, .int .i64 len, .int .u32 sum]

theorem isKind_any (k : Int) (w : World) :
    Calls Tryz.prog 117 #[.int .i64 k] w fun e w' => e = .returned (.bool (decide (1 ≤ k) && decide (k ≤ 9))) ∧ w' = w := by
  by_cases h1 : 1 ≤ k
  · go_enter Tryz.func117, Tryz.ntmps117
    go_wp2
    go_ret
    refine ⟨?_, rfl⟩
    simp [h1]
  · have h2 : decide (1 ≤ k) = false := by simpa using h1
    go_enter Tryz.func117, Tryz.ntmps117
    go_wp2
    go_ret
    refine ⟨?_, rfl⟩
    simp

theorem Tryz.size311 : (Tryz.prog.info? 311).map (·.size) = some 4 := by kernel_rfl
theorem head_load {w : World} {B : Nat} {c0 c1 c2 c3 : Value} (hb : w.heap[B]? = some (.cells #[c0, c1, c2, c3] 311 (0, 0))) : (loadVar 311 ⟨B, 0, none⟩).run Tryz.prog w = .ok (.agg #[c0, c1, c2, c3]) w :=
  run_loadVar_row (P := Tryz.prog) w B 311 311 _ (0, 0) _ hb Tryz.underlying311 rfl Tryz.size311

theorem tableHead_short (T : Nat) (ad : Option Addr) (n cap : Nat) (w : World) (hn : n < 24) :
    Calls Tryz.prog 217 #[.pointer (some ⟨T, 0, none⟩), .slice ad n cap] w fun e w' => e = .returned (.tuple #[headV 0 0 0 0, .int .i64 23]) ∧ Below w.heap.size w w' := by
  have hz : (n : Int) < 24 := by omega
  have hld := head_load (heap_alloc_new w (.cells #[Value.int IntKind.i64 0, Value.int IntKind.u64 0, Value.int IntKind.i64 0, Value.int IntKind.u32 0] 311))
  go_enter Tryz.func217, Tryz.ntmps217
  go_wp2
  refine bodyPost_ret (v := .tuple #[headV 0 0 0 0, .int .i64 23]) ?_ rfl ⟨rfl, (Below.refl _ _).alloc (Nat.le_refl _) _⟩
  rw [results_cell_tmp rfl]
  simp [asAddr, Result.andThen, hld, headV]

theorem part_len {K : List Int} {i m : Nat} (h : i + m ≤ K.length) : (part K i m).length = m := by unfold part; simp; omega
theorem ByteL.part {K : List Int} (h : ByteL K) (i m : Nat) : ByteL (part K i m) := (h.drop i).take m
theorem Holds.part {w : World} {b o n : Nat} {K : List Int} (h : Holds w (some ⟨b, o, none⟩) n K) (i m : Nat) (hm : i + m ≤ n) : Holds w (some ⟨b, o + i, none⟩) m (part K i m) := h.sub i m hm

theorem set_block {w : World} {B : Nat} {cs : Array Value} {t : TypeId} {fr : Nat × Nat} (h : w.heap[B]? = some (.cells cs t fr)) (i : Nat) (v : Value) : (w.setCell ⟨B, i, none⟩ v).heap[B]? = some (.cells (cs.setIfInBounds i v) t fr) := by
  have hlt := lt_of_block h
  have h' : w.heap[B] = .cells cs t fr := by simpa [Array.getElem?_eq_getElem hlt] using h
  show (w.heap.modify B _)[B]? = _
  rw [Array.getElem?_eq_getElem (by simpa using hlt), Array.getElem_modify_self, h']
  rfl
theorem head_set4 {w : World} {B : Nat} {a0 a1 a2 a3 : Value} (h : w.heap[B]? = some (.cells #[a0, a1, a2, a3] 311 (0, 0))) (c0 c1 c2 c3 : Value) :
    (loadVar 311 ⟨B, 0, none⟩).run Tryz.prog ((((w.setCell ⟨B, 0, none⟩ c0).setCell ⟨B, 1, none⟩ c1).setCell ⟨B, 2, none⟩ c2).setCell ⟨B, 3, none⟩ c3) = .ok (.agg #[c0, c1, c2, c3]) ((((w.setCell ⟨B, 0, none⟩ c0).setCell ⟨B, 1, none⟩ c1).setCell ⟨B, 2, none⟩ c2).setCell ⟨B, 3, none⟩ c3) := by
  have := set_block (set_block (set_block (set_block h 0 c0) 1 c1) 2 c2) 3 c3
  exact head_load this

/-- The world behind the head's own block. -/
abbrev hw (w : World) : World := w.alloc (.cells #[Value.int IntKind.i64 0, Value.int IntKind.u64 0, Value.int IntKind.i64 0, Value.int IntKind.u32 0] 311)
theorem isKind_true (k : Int) (h : 1 ≤ k ∧ k ≤ 9) (w : World) : Calls Tryz.prog 117 #[.int .i64 k] w fun e w' => e = .returned (.bool true) ∧ w' = w := by
  have := isKind_any k w
  simpa [h.1, h.2] using this
theorem isKind_false (k : Int) (h : ¬ (1 ≤ k ∧ k ≤ 9)) (w : World) : Calls Tryz.prog 117 #[.int .i64 k] w fun e w' => e = .returned (.bool false) ∧ w' = w := by
  have := isKind_any k w
  have e : (decide (1 ≤ k) && decide (k ≤ 9)) = false := by simp; omega
  rw [e] at this
  exact this

set_option maxHeartbeats 2000000 in
theorem tableHead_bad (T b o n cap : Nat) (K : List Int) (w : World) (hT : w.heap[T]? = some (.cells (tabAt 256) 220 (0, 0))) (h : Holds w (some ⟨b, o, none⟩) n K) (hK : ByteL K) (hn : 24 ≤ n) (hcap : n ≤ cap) (hR : ¬ RightH K) :
    Calls Tryz.prog 217 #[.pointer (some ⟨T, 0, none⟩), .slice (some ⟨b, o, none⟩) n cap] w fun e w' => e = .returned (.tuple #[headV 0 0 0 0, .int .i64 24]) ∧ Below w.heap.size w w' := by
  have hz : ¬ ((n : Int) < 24) := by omega
  have hl := h.len
  have hz24 : (24 : Int) ≤ (n : Int) := by omega
  have hc24 : (24 : Int) ≤ (cap : Int) := by omega
  have hc3 : (3 : Int) ≤ (cap : Int) := by omega
  have hc20 : (20 : Int) ≤ (cap : Int) := by omega
  have hc3n : 3 ≤ cap := by omega
  have hc20n : 20 ≤ cap := by omega
  have hc24n : 24 ≤ cap := by omega
  have hb1 : Below w.heap.size w (hw w) := (Below.refl _ _).alloc (Nat.le_refl _) _
  have hB := heap_alloc_new w (.cells #[Value.int IntKind.i64 0, Value.int IntKind.u64 0, Value.int IntKind.i64 0, Value.int IntKind.u32 0] 311)
  have h1 := h.below hb1
  have hT1 := (hb1.block T (lt_of_block hT)).trans hT
  obtain ⟨k, hk⟩ : ∃ k, K.getD 3 0 = k := ⟨_, rfl⟩
  have hck := h1.at 3 (by omega)
  rw [hk, Addr.add_lit] at hck
  have hk3 : 3 < K.length := by omega
  obtain ⟨hk0, hk1⟩ := hK k (by rw [← hk, List.getD, List.getElem?_eq_getElem hk3]; exact List.getElem_mem hk3)
  have ek : wrap64 k = k := by unfold wrap64; omega
  have N := number_any b (o + 12) 4 (cap - 12) (part K 12 4) _ (h1.part 12 4 (by omega)) (hK.part _ _) (by omega)
  obtain ⟨L, hL⟩ : ∃ L, numI (part K 12 4) = L := ⟨_, rfl⟩
  rw [hL] at N
  have HC : ∀ m, (convert 37 9 (.slice (some ⟨b, o, none⟩) 3 cap)).run Tryz.prog ((hw w).drewN m) = .ok (.string (strI (K.take 3))) ((hw w).drewN m) := by
    intro m
    have := h1.part 0 3 (by omega)
    exact conv_holds (this.drewN m) cap
  have fin : ∀ m, (loadVar 311 ⟨w.heap.size, 0, none⟩).run Tryz.prog ((((((hw w).drewN m).setCell ⟨w.heap.size, 0, none⟩ (.int .i64 0)).setCell ⟨w.heap.size, 1, none⟩ (.int .u64 0)).setCell ⟨w.heap.size, 2, none⟩ (.int .i64 0)).setCell ⟨w.heap.size, 3, none⟩ (.int .u32 0)) = .ok (headV 0 0 0 0) ((((((hw w).drewN m).setCell ⟨w.heap.size, 0, none⟩ (.int .i64 0)).setCell ⟨w.heap.size, 1, none⟩ (.int .u64 0)).setCell ⟨w.heap.size, 2, none⟩ (.int .i64 0)).setCell ⟨w.heap.size, 3, none⟩ (.int .u32 0)) ∧ Below w.heap.size w ((((((hw w).drewN m).setCell ⟨w.heap.size, 0, none⟩ (.int .i64 0)).setCell ⟨w.heap.size, 1, none⟩ (.int .u64 0)).setCell ⟨w.heap.size, 2, none⟩ (.int .i64 0)).setCell ⟨w.heap.size, 3, none⟩ (.int .u32 0)) :=
    fun m => ⟨head_set4 (w := (hw w).drewN m) hB _ _ _ _, ((((below_drewN hb1 m).setCell (Nat.le_refl _) _).setCell (Nat.le_refl _) _).setCell (Nat.le_refl _) _).setCell (Nat.le_refl _) _⟩
  have FIN : Hid (∀ m, (loadVar 311 ⟨w.heap.size, 0, none⟩).run Tryz.prog ((((((hw w).drewN m).setCell ⟨w.heap.size, 0, none⟩ (.int .i64 0)).setCell ⟨w.heap.size, 1, none⟩ (.int .u64 0)).setCell ⟨w.heap.size, 2, none⟩ (.int .i64 0)).setCell ⟨w.heap.size, 3, none⟩ (.int .u32 0)) = .ok (headV 0 0 0 0) ((((((hw w).drewN m).setCell ⟨w.heap.size, 0, none⟩ (.int .i64 0)).setCell ⟨w.heap.size, 1, none⟩ (.int .u64 0)).setCell ⟨w.heap.size, 2, none⟩ (.int .i64 0)).setCell ⟨w.heap.size, 3, none⟩ (.int .u32 0)) ∧ Below w.heap.size w ((((((hw w).drewN m).setCell ⟨w.heap.size, 0, none⟩ (.int .i64 0)).setCell ⟨w.heap.size, 1, none⟩ (.int .u64 0)).setCell ⟨w.heap.size, 2, none⟩ (.int .i64 0)).setCell ⟨w.heap.size, 3, none⟩ (.int .u32 0))) := fin
  have HR : Hid (¬ RightH K) := hR
  have RS := fun m => readSum_any b (o + 20) (cap - 20) (part K 20 4) ((hw w).drewN m) ((h1.part 20 4 (by omega)).drewN m) (hK.part _ _)
  have MO := fun m => more_any T 0#32 (some ⟨b, o, none⟩) 20 cap (K.take 20) ((hw w).drewN m) hT1 ((h1.part 0 20 (by omega)).drewN m) (hK.take 20) (by omega)
  obtain ⟨s1, hs1⟩ : ∃ s, sumI (part K 20 4) = s := ⟨_, rfl⟩
  obtain ⟨s2, hs2⟩ : ∃ s, (moreB 0#32 (K.take 20)).toNat = s := ⟨_, rfl⟩
  simp only [hs1] at RS
  simp only [hs2] at MO
  have MO' : ∀ m, Calls Tryz.prog 121 #[.pointer (some ⟨T, 0, none⟩), .int .u32 0, .slice (some ⟨b, o, none⟩) 20 cap] ((hw w).drewN m) fun e w' => e = .returned (.int .u32 (s2 : Int)) ∧ w' = (hw w).drewN m := MO
  clear fin hR hB hb1 MO
  by_cases d1 : K.take 3 = [83, 80, 82]
  · rw [d1] at HC
    have hS : strI [83, 80, 82] = ⟨#[83, 80, 82]⟩ := rfl
    rw [hS] at HC
    have hd1 : ((⟨#[83, 80, 82]⟩ : ByteArray).toList == [83, 80, 82]) = true := by rw [Lib.toList_data]; rfl
    by_cases d2 : 1 ≤ k ∧ k ≤ 9
    · by_cases d3 : L ≤ 1048576
      · have hd3 : (L : Int) ≤ 1048576 := by omega
        have hd4 : ((s1 : Int) == (s2 : Int)) = false := by
          apply beq_eq_false_iff_ne.2
          intro e
          apply HR.out
          exact ⟨d1, by rw [hk]; exact d2, by rw [hL]; exact d3, by rw [hs1, hs2]; omega⟩
        clear d1 hk hL hs1 hs2 hS HR d3
        go_enter Tryz.func217, Tryz.ntmps217
        go_wp2_with (go_at_call 239; refine N.mono ?_; rintro e w' ⟨rfl, hw⟩; obtain rfl := hw.symm)
        go_quiet (first | (go_at_call 117; refine Calls.quiet_of_same (isKind_true k d2 _)) | (go_at_call 240; refine Calls.quiet_of_same (RS _)) | (go_at_call 121; refine Calls.quiet_of_same (MO' _)))
        go_wp2
        obtain ⟨f2, f3⟩ := FIN.out nq
        refine bodyPost_ret (v := .tuple #[headV 0 0 0 0, .int .i64 24]) ?_ rfl ⟨rfl, f3⟩
        rw [results_cell_tmp rfl]
        simp [asAddr, Result.andThen, f2]
      · have hd3 : decide ((L : Int) ≤ 1048576) = false := by simp; omega
        clear d1 hk hL hs1 hs2 hS HR d3
        go_enter Tryz.func217, Tryz.ntmps217
        go_wp2_with (go_at_call 239; refine N.mono ?_; rintro e w' ⟨rfl, hw⟩; obtain rfl := hw.symm)
        go_quiet (first | (go_at_call 117; refine Calls.quiet_of_same (isKind_true k d2 _)))
        go_wp2
        obtain ⟨f2, f3⟩ := FIN.out nq
        refine bodyPost_ret (v := .tuple #[headV 0 0 0 0, .int .i64 24]) ?_ rfl ⟨rfl, f3⟩
        rw [results_cell_tmp rfl]
        simp [asAddr, Result.andThen, f2]
    · clear d1 hk hL hs1 hs2 hS HR
      go_enter Tryz.func217, Tryz.ntmps217
      go_wp2_with (go_at_call 239; refine N.mono ?_; rintro e w' ⟨rfl, hw⟩; obtain rfl := hw.symm)
      go_quiet (first | (go_at_call 117; refine Calls.quiet_of_same (isKind_false k d2 _)))
      go_wp2
      obtain ⟨f2, f3⟩ := FIN.out nq
      refine bodyPost_ret (v := .tuple #[headV 0 0 0 0, .int .i64 24]) ?_ rfl ⟨rfl, f3⟩
      rw [results_cell_tmp rfl]
      simp [asAddr, Result.andThen, f2]
  · obtain ⟨S, hS⟩ : ∃ S, strI (K.take 3) = S := ⟨_, rfl⟩
    have hd1 : (S.toList == [83, 80, 82]) = false := by
      rw [← hS, ← spr_list]
      exact str_ne (L := [83, 80, 82]) (hK.take 3) (fun x hx => by simp at hx; omega) d1
    rw [hS] at HC
    clear d1 hS
    go_enter Tryz.func217, Tryz.ntmps217
    go_wp2_with (go_at_call 239; refine N.mono ?_; rintro e w' ⟨rfl, hw⟩; obtain rfl := hw.symm)
    go_quiet (fail)
    go_wp2
    obtain ⟨f2, f3⟩ := FIN.out nq
    refine bodyPost_ret (v := .tuple #[headV 0 0 0 0, .int .i64 24]) ?_ rfl ⟨rfl, f3⟩
    rw [results_cell_tmp rfl]
    simp [asAddr, Result.andThen, f2]
end Go.Proofs.YtgoafinbaiepmaaGreatDoor.fr