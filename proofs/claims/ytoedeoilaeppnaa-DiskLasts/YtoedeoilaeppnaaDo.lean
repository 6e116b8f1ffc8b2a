/-
  Layer 7 (disk): the chapter's first example (awake).
-/
import Derived.Test.YtoedeoilaeppnaaDn
import Derived.Lib.SlBytesConst
namespace Go.Proofs.Ytoedeoilaeppnaa
open Go.RowKit Go.Shelf Go.Maps Go.WideMaps
set_option maxRecDepth 100000

/-- Bytes as a string. -/
def strI (K : List Int) : ByteArray := ⟨(K.map (fun n => UInt8.ofNat n.toNat)).toArray⟩
theorem strI_fold (K : List Int) : ∀ s : ByteArray, K.foldl (fun r n => r.push (UInt8.ofNat n.toNat)) s = ⟨s.data ++ (K.map (fun n => UInt8.ofNat n.toNat)).toArray⟩ := by
  induction K with
  | nil => intro s; simp
  | cons x r ih =>
    intro s
    rw [List.foldl_cons, ih]
    simp [ByteArray.push]
theorem strI_size (K : List Int) : (strI K).size = K.length := by show (K.map _).toArray.size = _; simp
theorem conv_holds {w : World} {ad : Option Addr} {n : Nat} {K : List Int} (h : Holds w ad n K) (c : Nat) : (convert 38 9 (.slice ad n c)).run Try.prog w = .ok (.string (strI K)) w := by
  rw [run_convert_bytes_string w 38 9 5 _ _ _ Try.underlying38 Try.underlying5 Try.underlying9]
  cases ad with
  | none =>
    have hK : K = [] := by
      cases K with
      | nil => rfl
      | cons x r => obtain ⟨a, ha, _⟩ := h.cells 0 (.int .u8 x) (by simp); simp at ha
    have hn := h.len
    subst hK
    subst hn
    rfl
  | some a =>
    have hn := h.len
    subst hn
    rw [run_bytesToString w a K.length c K]
    · rw [strI_fold]; simp [strI]
    · have := run_firstCells_some (P := Try.prog) w 1 K.length a K.length c (K.map (Value.int .u8)) (by simp) (fun j u hj => by
        obtain ⟨a', ha, hc⟩ := h.cells j u hj
        simp at ha; subst ha; exact hc)
      simpa [Builtin.firstCells] using this
/-- What a file holds. -/
structure Fil (F : Fl) (B L : List Int) (T : List St) : Prop where
  B : F.B = B
  L : F.L = L
  S : F.S.map St.abs = T.map St.abs
theorem Fil.units {F : Fl} {B L : List Int} {T : List St} (h : Fil F B L T) : unitsL F.S = unitsL T := (abs_all F.S T [] h.S).2.1
theorem Fil.many {F : Fl} {B L : List Int} {T : List St} (h : Fil F B L T) : F.S.length = T.length := by have := congrArg List.length h.S; simpa using this
theorem create_new (w1 : World) (b : Nat) (h : DiskAt b w1 (b + 3) 0 ⟨b, b + 1, b + 2, 0, .slice none 0 0, [], 0, 0, 0, false, .map [], .map [], .map []⟩) (hb : b ≤ w1.heap.size) :
    Calls Try.prog 7 #[.pointer (some ⟨b + 3, 0, none⟩), .string ⟨#[97]⟩] w1 fun e w' => e = .returned (.int .i64 0) ∧ (∃ K f F, One b w' (b + 3) 2 K 0 f F ∧ Fil F [] [] [] ∧ K.ns = [crV ⟨#[97]⟩ 0] ∧ K.cr = 1 ∧ K.DL = .map [] ∧ Only K 0) ∧ Below b w1 w' := by
  refine (create_a b (b + 3) 0 _ w1 h hb rfl rfl (by simp [Maps.has]) (by unfold maxLen; omega) (by simp only; omega) (by simp)).mono ?_
  rintro e w' ⟨rfl, f, sv, O, B⟩
  exact ⟨rfl, ⟨_, f, noF, O, ⟨rfl, rfl, rfl⟩, rfl, rfl, rfl, only_put f⟩, B⟩
theorem append_f {b d N : Nat} {K : Dk} {f : Nat} {F : Fl} {B L : List Int} {T : List St} (ad : Option Addr) (m c : Nat) (X : List Int) (w : World) (h : One b w d N K 0 f F) (hF : Fil F B L T) (hb : b ≤ w.heap.size) (hH : Holds w ad m X) (hm : 0 < m) (hc : m ≤ c) (hB : B.length + m ≤ 1000) (hT : T.length ≤ 1000) :
    Calls Try.prog 11 #[.pointer (some ⟨d, 0, none⟩), .string ⟨#[97]⟩, .slice ad m c] w fun e w' => e = .returned (.int .i64 0) ∧ (∃ F', One b w' d N K 0 f F' ∧ Fil F' (B ++ X) L (T ++ [⟨false, m, none, 0, X⟩])) ∧ Below b w w' := by
  refine (append_a b d N K 0 f F ad m c X w h hb hH hm hc (by rw [hF.B]; omega) (by rw [hF.many]; omega)).mono ?_
  rintro e w' ⟨rfl, ⟨bv, sv, s, O, s1, s2, s3⟩, B2⟩
  refine ⟨rfl, ⟨_, O, ⟨by rw [← hF.B], hF.L, ?_⟩⟩, B2⟩
  simp [hF.S, St.abs, s1, s2, s3]
theorem sync_f {b d N : Nat} {K : Dk} {f : Nat} {F : Fl} {B L : List Int} {T : List St} (w : World) (h : One b w d N K 0 f F) (hF : Fil F B L T) (hb : b ≤ w.heap.size) (hL : L.length + unitsL T ≤ 1000) :
    Calls Try.prog 9 #[.pointer (some ⟨d, 0, none⟩), .string ⟨#[97]⟩] w fun e w' => e = .returned (.int .i64 0) ∧ (∃ F', One b w' d N K 0 f F' ∧ Fil F' B B []) ∧ Below b w w' := by
  refine (sync_a b d N K 0 f F w h hb (by rw [hF.L, hF.units]; omega)).mono ?_
  rintro e w' ⟨rfl, ⟨lv, O⟩, B2⟩
  exact ⟨rfl, ⟨_, O, ⟨hF.B, hF.B, rfl⟩⟩, B2⟩
theorem pending_f {b d N : Nat} {K : Dk} {f : Nat} {F : Fl} {B L : List Int} {T : List St} (w : World) (h : One b w d N K 0 f F) (hF : Fil F B L T) (hcr : K.cr = 1) (hon : Only K 0) (hns : K.ns = [crV ⟨#[97]⟩ 0]) (u : Nat) (hu : unitsL T = u) (hb : u ≤ 1000) :
    Calls Try.prog 16 #[.pointer (some ⟨d, 0, none⟩)] w fun e w' => ∃ g, e = .returned (.agg #[.int .i64 1, .slice (some ⟨g, 0, none⟩) 1 1]) ∧ w'.cell? ⟨g, 0, none⟩ = some (.int .i64 (u : Int)) ∧ Below w.heap.size w w' := by
  have := pending_a b d N K f F w h hcr hon (by rw [hF.units]; omega)
  rw [hF.units, hu, hns] at this
  exact this
theorem copy_f {b d N : Nat} {K : Dk} {f : Nat} {F : Fl} {B L : List Int} {T : List St} (w : World) (h : One b w d N K 0 f F) (hF : Fil F B L T) (hon : Only K 0) (hns : K.ns = [crV ⟨#[97]⟩ 0]) (hDL : K.DL = .map []) (hB : B.length ≤ 1000) (hL : L.length ≤ 1000) (hT : T.length ≤ 1000) :
    Calls Try.prog 17 #[.pointer (some ⟨d, 0, none⟩)] w fun e w' => ∃ c, e = .returned (.pointer (some ⟨c, 0, none⟩)) ∧ (∃ K' f' G, One w.heap.size w' c (N + 1) K' 0 f' G ∧ Fil G B L T ∧ K'.ns = [crV ⟨#[97]⟩ 0] ∧ K'.DL = .map []) ∧ Below w.heap.size w w' := by
  refine (copy_a b d N K f F w h hon (by rw [hns]; intro u hu; simp at hu; subst hu; exact crV_one _ _) (by rw [hns]; simp) (by rw [hF.B]; omega) (by rw [hF.L]; omega) (by rw [hF.many]; omega)).mono ?_
  rintro e w' ⟨c, rfl, mf, mn, ml, sv, f', G, O, g1, g2, g3, B2⟩
  exact ⟨c, rfl, ⟨_, f', G, O, ⟨g1.trans hF.B, g2.trans hF.L, g3.trans hF.S⟩, hns, hDL⟩, B2⟩
theorem restart_f {b d N : Nat} {K : Dk} {f : Nat} {F : Fl} {B L : List Int} {T : List St} (g : Nat) (w : World) (h : One b w d N K 0 f F) (hF : Fil F B L T) (hb : b ≤ w.heap.size) (hns : K.ns = [crV ⟨#[97]⟩ 0]) (hDL : K.DL = .map []) (hN : N ≤ 1000) (hd : w.heap[g]? = some (.cells #[.int .i64 1] 3 (0, 0))) (hL : L.length + unitsL T ≤ 1000) (X : List Int) (hX : firstOn L T 1 = X) :
    Calls Try.prog 12 #[.pointer (some ⟨d, 0, none⟩), .agg #[.int .i64 1, .slice (some ⟨g, 0, none⟩) 1 1]] w fun e w' => e = .returned (.tuple #[]) ∧ (∃ K' G, One b w' d (N + 1) K' 0 f G ∧ G.B = X) ∧ Below b w w' := by
  refine (restart_one b d N K f F g w h hb hDL hns (by unfold maxLen; omega) hd (by rw [hF.L, hF.units]; omega)).mono ?_
  rintro e w' ⟨rfl, K', G, O, g1, B2⟩
  refine ⟨rfl, ⟨K', G, O, ?_⟩, B2⟩
  rw [g1, hF.L, abs_first F.S T L 1 hF.S, hX]
theorem holds_const (w : World) (X : List Int) (fz : Nat × Nat) : Holds (w.alloc (.cells (X.map (Value.int .u8)).toArray 5 fz)) (some ⟨w.heap.size, 0, none⟩) X.length X := by
  refine ⟨rfl, fun j u hj => ⟨_, rfl, ?_⟩⟩
  have h := heap_alloc_new w (.cells (X.map (Value.int .u8)).toArray 5 fz)
  rw [Addr.add_lit]
  simp only [World.cell?, Nat.zero_add, h]
  simpa using hj
theorem strI_abcd : strI (([97, 98, 99, 100] : List Int).take 4) = ⟨#[97, 98, 99, 100]⟩ := by kernel_rfl
set_option maxHeartbeats 4000000 in
theorem awake_any (w : World) : Calls Try.prog 4 #[] w fun e w' => e = .returned (.bool true) ∧ Below w.heap.size w w' := by
  have N1 := new_any w
  have KA := fun (w : World) => Lib.run_convert_bytes_const (P := Try.prog) w 38 5 #[.int .u8 97, .int .u8 98, .int .u8 99] 3 3 Try.underlying38 Try.underlying5
  have KB := fun (w : World) => Lib.run_convert_bytes_const (P := Try.prog) w 38 5 #[.int .u8 100, .int .u8 101] 2 2 Try.underlying38 Try.underlying5
  have HA := fun (w : World) => holds_const w [97, 98, 99] (3, 4)
  have HB := fun (w : World) => holds_const w [100, 101] (2, 3)
  have HHA : Hid _ := HA
  have HHB : Hid _ := HB
  clear HA HB
  go_enter Try.func4, Try.ntmps4
  go_wp2_with (first
    | (go_at_call 5; refine N1.mono ?_; clear N1; rintro e w1 ⟨rfl, D1, b1⟩; have z1 := b1.size)
    | (go_at_call 7; refine (create_new w1 _ D1 z1).mono ?_; clear D1; rintro e w2 ⟨rfl, ⟨K, f, F2, O2, L2, hns, hcr, hDL, hon⟩, b2⟩; have B2 := b1.trans b2; have z2 := B2.size; have HNS : Hid _ := hns; have HCR : Hid _ := hcr; have HDL : Hid _ := hDL; have HON : Hid _ := hon; clear hns hcr hDL hon b1 b2 z1)
    | (go_at_call 11; refine (append_f _ 3 3 [97, 98, 99] _ (O2.below ((Below.refl _ _).alloc (Nat.le_refl _) _)) L2 (by rw [World.size_alloc]; omega) (HHA.out w2) (by omega) (by omega) (by simp) (by simp)).mono ?_; clear HHA; rintro e w3 ⟨rfl, ⟨F3, O3, L3⟩, b3⟩; have B3 : Below w.heap.size w w3 := (B2.alloc z2 _).trans b3; have z3 := B3.size; clear O2 L2 b3 B2 KA)
    | (go_at_call 9; refine (sync_f _ O3 L3 z3 (by simp [unitsL, St.units])).mono ?_; rintro e w4 ⟨rfl, ⟨F4, O4, L4⟩, b4⟩; have B4 := B3.trans b4; have z4 := B4.size; clear O3 L3 b4 B3)
    | (go_at_call 11; refine (append_f _ 2 2 [100, 101] _ (O4.below ((Below.refl _ _).alloc (Nat.le_refl _) _)) L4 (by rw [World.size_alloc]; omega) (HHB.out w4) (by omega) (by omega) (by simp) (by simp)).mono ?_; clear HHB; rintro e w5 ⟨rfl, ⟨F5, O5, L5⟩, b5⟩; have B5 : Below w.heap.size w w5 := (B4.alloc z4 _).trans b5; have z5 := B5.size; clear O4 L4 b5 B4 KB)
    | (go_at_call 16; refine (pending_f _ O5 L5 HCR.out HON.out HNS.out 2 (by simp [unitsL, St.units]) (by omega)).mono ?_; rintro e w6 ⟨g6, rfl, c6, b6⟩; have O6 := O5.below b6; have B6 : Below w.heap.size w w6 := B5.trans (b6.mono z5); have z6 := B6.size; clear O5 b6 B5)
    | (go_at_call 17; have O7 := O6.below ((Below.refl _ _).alloc (Nat.le_refl _) (.cells #[.int .i64 1, .slice (some ⟨g6, 0, none⟩) 1 1] 25)); refine (copy_f _ O7 L5 HON.out HNS.out HDL.out (by simp) (by simp) (by simp)).mono ?_; rintro e w8 ⟨c8, rfl, ⟨K8, f8, G8, O8, L8, ns8, dl8⟩, b8⟩; have HNS8 : Hid _ := ns8; have HDL8 : Hid _ := dl8; have z8 := b8.size; have s7 : (w6.alloc (.cells #[.int .i64 1, .slice (some ⟨g6, 0, none⟩) 1 1] 25)).heap.size = w6.heap.size + 1 := World.size_alloc _ _; have kb := (b8.block w6.heap.size (by omega)).trans (heap_alloc_new w6 _); have k0 := blk_cell kb 0 (v := .int .i64 1) rfl; have k1 := blk_cell kb 1 (v := .slice (some ⟨g6, 0, none⟩) 1 1) rfl; have lg := World.block_lt_of_cell? w6 _ c6; have k2 := (b8.cell (p := ⟨g6, 0, none⟩) (by simp only at lg ⊢; omega)).trans ((World.cell?_alloc_lt _ _ _ lg).trans c6); have HB8 : Hid _ := b8; have HS7 : Hid _ := s7; clear ns8 dl8 O6 L5 kb s7 b8)
    | (go_at_call 12; have O9 := O8.below ((Below.refl _ _).alloc (Nat.le_refl _) (.cells #[.int .i64 1] 3)); refine (restart_f w8.heap.size _ O9 L8 (Nat.le_trans z8 (by rw [World.size_alloc]; omega)) HNS8.out HDL8.out (by omega) (heap_alloc_new w8 _) (by simp [unitsL, St.units]) [97, 98, 99, 100] (by simp [firstOn, St.on])).mono ?_; rintro e w10 ⟨rfl, ⟨K10, G10, O10, hG10⟩, b10⟩; have HG10 : Hid _ := hG10; have b710 := HB8.out.trans (((Below.refl w8.heap.size w8).alloc (Nat.le_refl _) (.cells #[.int .i64 1] 3)).mono z8 |>.trans b10); have O11 := O7.below b710; have z10 := b710.size; have B10 : Below w.heap.size w w10 := ((B6.alloc z6 _).trans (b710.mono (by rw [World.size_alloc]; omega))); have zz10 := B10.size; clear O8 O9 L8 O7 hG10 b10 b710)
    | (go_at_call 15; refine (read_a _ _ _ _ _ _ _ 4 _ O10 (by rw [HG10.out]; simp) (by omega) (by rw [HG10.out]; simp)).mono ?_; rintro e w11 ⟨v11, rfl, o11, b11⟩; have O12 := O11.below b11; have ld := (O11.disk.lt (Or.inl rfl)).2; have B11 := B10.trans (b11.mono zz10); have z11 := B11.size; rw [HG10.out] at o11; have zb11 := b11.size; obtain ⟨a11, n11, c11, rfl⟩ := row_shape o11; clear O10 O11 b11)
    | (go_at_call 12; refine (restart_none _ _ _ _ _ O12.disk z11 HDL.out).mono ?_; rintro e w12 ⟨rfl, K12, D12, dn12, on12, b12, u12⟩; have B12 := B11.trans b12; have HDN : Hid _ := dn12; have HO12 : Hid _ := on12; have o12 := o11.upd u12 (fun k e hh => (by have := (o11.lt e).2; omega)); have cv := conv_holds o12.holds c11; rw [strI_abcd] at cv; clear o11 o12 u12 b12 dn12 on12 O12)
    | (go_at_call 14; refine (size_none _ _ _ _ _ D12 HO12.out (by rw [HDN.out]; simp [Maps.has])).mono ?_; rintro e w13 ⟨rfl, hw⟩; obtain rfl := hw.symm)
  )
  go_ret
  exact ⟨rfl, B12⟩
end Go.Proofs.Ytoedeoilaeppnaa
