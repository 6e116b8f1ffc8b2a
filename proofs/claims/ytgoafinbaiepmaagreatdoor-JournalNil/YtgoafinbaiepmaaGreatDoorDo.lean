/-
  Layer 7 (disk): the chapter's first example (awake).
-/
import Derived.Test.YtgoafinbaiepmaaGreatDoorDn
import Derived.Lib.SlBytesConst
namespace Go.Proofs.YtgoafinbaiepmaaGreatDoor
open Go.RowKit Go.Shelf Go.Maps Go.WideMaps
set_option maxRecDepth 100000

/-- Bytes as a string. -/
def strI (K : List Int) : ByteArray := ⟨(K.map (fun n => UInt8.ofNat n.toNat)).toArray⟩
theorem strI_fold (K : List Int) : ∀ s : ByteArray, K.foldl (fun r n => r.push (UInt8.ofNat n.toNat)) s = ⟨s.data ++ (K.map (fun n => UInt8.ofNat n.toNat)).toArray⟩ := by
  induction K with
  | nil => intro s; simp
  | cons x r ih =>
    intro s
    rw [List.foldl_cons, ih]
    simp [ByteArray.push]
theorem strI_size (K : List Int) : (strI K).size = K.length := by show (K.map _).toArray.size = _; simp
theorem conv_holds {w : World} {ad : Option Addr} {n : Nat} {K : List Int} (h : Holds w ad n K) (c : Nat) : (convert 37 9 (.slice ad n c)).run Tryz.prog w = .ok (.string (strI K)) w := by
  rw [run_convert_bytes_string w 37 9 5 _ _ _ Tryz.underlying37 Tryz.underlying5 Tryz.underlying9]
  cases ad with
  | none =>
    have hK : K = [] := by
      cases K with
      | nil => rfl
      | cons x r => obtain ⟨a, ha, _⟩ := h.cells 0 (.int .u8 x) (by simp); simp at ha
    have hn := h.len
    subst hK
    subst hn
    rfl
  | some a =>
    have hn := h.len
    subst hn
    rw [run_bytesToString w a K.length c K]
    · rw [strI_fold]; simp [strI]
    · have := run_firstCells_some (P := Tryz.prog) w 1 K.length a K.length c (K.map (Value.int .u8)) (by simp) (fun j u hj => by
        obtain ⟨a', ha, hc⟩ := h.cells j u hj
        simp at ha; subst ha; exact hc)
      simpa [Builtin.firstCells] using this
/-- What a file holds. -/
structure Fil (F : Fl) (B L : List Int) (T : List St) : Prop where
  B : F.B = B
  L : F.L = L
  S : F.S.map St.abs = T.map St.abs
theorem Fil.units {F : Fl} {B L : List Int} {T : List St} (h : Fil F B L T) : unitsL F.S = unitsL T := (abs_all F.S T [] h.S).2.1
theorem Fil.many {F : Fl} {B L : List Int} {T : List St} (h : Fil F B L T) : F.S.length = T.length := by have := congrArg List.length h.S; simpa using this
theorem create_new (w1 : World) (b : Nat) (h : DiskAt b w1 (b + 3) 0 ⟨b, b + 1, b + 2, 0, .slice none 0 0, [], 0, 0, 0, false, .map [], .map [], .map []⟩) (hb : b ≤ w1.heap.size) :
    Calls Tryz.prog 78 #[.pointer (some ⟨b + 3, 0, none⟩), .string ⟨#[97]⟩] w1 fun e w' => e = .returned (.int .i64 0) ∧ (∃ K f F, One b w' (b + 3) 2 K 0 f F ∧ Fil F [] [] [] ∧ K.ns = [crV ⟨#[97]⟩ 0] ∧ K.cr = 1 ∧ K.DL = .map [] ∧ Only K 0) ∧ Below b w1 w' := by
  refine (create_a b (b + 3) 0 _ w1 h hb rfl rfl (by simp [Maps.has]) (by unfold maxLen; omega) (by simp only; omega) (by simp)).mono ?_
  rintro e w' ⟨rfl, f, sv, O, B⟩
  exact ⟨rfl, ⟨_, f, noF, O, ⟨rfl, rfl, rfl⟩, rfl, rfl, rfl, only_put f⟩, B⟩
theorem append_f {b d N : Nat} {K : Dk} {f : Nat} {F : Fl} {B L : List Int} {T : List St} (ad : Option Addr) (m c : Nat) (X : List Int) (w : World) (h : One b w d N K 0 f F) (hF : Fil F B L T) (hb : b ≤ w.heap.size) (hH : Holds w ad m X) (hm : 0 < m) (hc : m ≤ c) (hB : B.length + m ≤ 1000) (hT : T.length ≤ 1000) :
    Calls Tryz.prog 80 #[.pointer (some ⟨d, 0, none⟩), .string ⟨#[97]⟩, .slice ad m c] w fun e w' => e = .returned (.int .i64 0) ∧ (∃ F', One b w' d N K 0 f F' ∧ Fil F' (B ++ X) L (T ++ [⟨false, m, none, 0, X⟩])) ∧ Below b w w' := by
  refine (append_a b d N K 0 f F ad m c X w h hb hH hm hc (by rw [hF.B]; omega) (by rw [hF.many]; omega)).mono ?_
  rintro e w' ⟨rfl, ⟨bv, sv, s, O, s1, s2, s3⟩, B2⟩
  refine ⟨rfl, ⟨_, O, ⟨by rw [← hF.B], hF.L, ?_⟩⟩, B2⟩
  simp [hF.S, St.abs, s1, s2, s3]
theorem sync_f {b d N : Nat} {K : Dk} {f : Nat} {F : Fl} {B L : List Int} {T : List St} (w : World) (h : One b w d N K 0 f F) (hF : Fil F B L T) (hb : b ≤ w.heap.size) (hL : L.length + unitsL T ≤ 1000) :
    Calls Tryz.prog 125 #[.pointer (some ⟨d, 0, none⟩), .string ⟨#[97]⟩] w fun e w' => e = .returned (.int .i64 0) ∧ (∃ F', One b w' d N K 0 f F' ∧ Fil F' B B []) ∧ Below b w w' := by
  refine (sync_a b d N K 0 f F w h hb (by rw [hF.L, hF.units]; omega)).mono ?_
  rintro e w' ⟨rfl, ⟨lv, O⟩, B2⟩
  exact ⟨rfl, ⟨_, O, ⟨hF.B, hF.B, rfl⟩⟩, B2⟩
theorem pending_f {b d N : Nat} {K : Dk} {f : Nat} {F : Fl} {B L : List Int} {T : List St} (w : World) (h : One b w d N K 0 f F) (hF : Fil F B L T) (hcr : K.cr = 1) (hon : Only K 0) (hns : K.ns = [crV ⟨#[97]⟩ 0]) (u : Nat) (hu : unitsL T = u) (hb : u ≤ 1000) :
    Calls Tryz.prog 39 #[.pointer (some ⟨d, 0, none⟩)] w fun e w' => ∃ g, e = .returned (.agg #[.int .i64 1, .slice (some ⟨g, 0, none⟩) 1 1]) ∧ w'.cell? ⟨g, 0, none⟩ = some (.int .i64 (u : Int)) ∧ Below w.heap.size w w' := by
  have := pending_a b d N K f F w h hcr hon (by rw [hF.units]; omega)
  rw [hF.units, hu, hns] at this
  exact this
theorem restart_f {b d N : Nat} {K : Dk} {f : Nat} {F : Fl} {B L : List Int} {T : List St} (g : Nat) (w : World) (h : One b w d N K 0 f F) (hF : Fil F B L T) (hb : b ≤ w.heap.size) (hns : K.ns = [crV ⟨#[97]⟩ 0]) (hDL : K.DL = .map []) (hN : N ≤ 1000) (hd : w.heap[g]? = some (.cells #[.int .i64 1] 3 (0, 0))) (hL : L.length + unitsL T ≤ 1000) (X : List Int) (hX : firstOn L T 1 = X) :
    Calls Tryz.prog 24 #[.pointer (some ⟨d, 0, none⟩), .agg #[.int .i64 1, .slice (some ⟨g, 0, none⟩) 1 1]] w fun e w' => e = .returned (.tuple #[]) ∧ (∃ K' G, One b w' d (N + 1) K' 0 f G ∧ G.B = X) ∧ Below b w w' := by
  refine (restart_one b d N K f F g w h hb hDL hns (by unfold maxLen; omega) hd (by rw [hF.L, hF.units]; omega)).mono ?_
  rintro e w' ⟨rfl, K', G, O, g1, B2⟩
  refine ⟨rfl, ⟨K', G, O, ?_⟩, B2⟩
  rw [g1, hF.L, abs_first F.S T L 1 hF.S, hX]
theorem holds_const (w : World) (X : List Int) (fz : Nat × Nat) : Holds (w.alloc (.cells (X.map (Value.int .u8)).toArray 5 fz)) (some ⟨w.heap.size, 0, none⟩) X.length X := by
  refine ⟨rfl, fun j u hj => ⟨_, rfl, ?_⟩⟩
  have h := heap_alloc_new w (.cells (X.map (Value.int .u8)).toArray 5 fz)
  rw [Addr.add_lit]
  simp only [World.cell?, Nat.zero_add, h]
  simpa using hj
theorem strI_abcd : strI (([97, 98, 99, 100] : List Int).take 4) = ⟨#[97, 98, 99, 100]⟩ := by kernel_rfl
end Go.Proofs.YtgoafinbaiepmaaGreatDoor
