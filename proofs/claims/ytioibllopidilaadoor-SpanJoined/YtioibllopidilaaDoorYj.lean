/-
  Contracts: Join of two of one name (written by gen_yj2.py).
-/
import Derived.Test.YtioibllopidilaaDoorYd
import Derived.Test.YtioibllopidilaaDoorZr
import Derived.Test.YtioibllopidilaaDoorZz
import Derived.Test.YtioibllopidilaaDoorZj
namespace Go.Proofs.YtioibllopidilaaDoor
open Go.Shelf Go.RowKit
set_option maxRecDepth 100000

theorem orE_any (ad : Option Addr) (n cap : Nat) (K : List Int) (w : World) (h : HoldsV w ad n (intsV .i64 K)) (hn : n ≤ 1000000) :
    Calls Tryd.prog 26 #[.slice ad n cap] w fun e w' => e = .returned (.int .i64 (orL K)) ∧ w' = w := by
  have hl : K.length = n := by simpa [intsV] using h.len
  go_enter Tryd.func26, Tryd.ntmps26
  go_wp2
  go_loop [8] (fun a => ∃ k : Nat, a = .int .i64 k ∧ k ≤ n ∧ orL K = orL (K.drop k)) (fun a => n - (intOf a).toNat)
  case atStart => exact ⟨0, rfl, by omega, by simp⟩
  case round =>
    obtain ⟨k, rfl, hk, ho⟩ := hrel
    have HO : Hid (orL K = orL (K.drop k)) := ho
    clear ho
    by_cases hlt : k < n
    · obtain ⟨b, off, rfl, hc⟩ := h.plain (intsV_get (k := .i64) (by omega : k < K.length))
      have hcx := hc k (.int .i64 K[k]) (intsV_get (by omega))
      have hd : K.drop k = K[k] :: K.drop (k + 1) := List.drop_eq_getElem_cons (by omega)
      obtain ⟨x, hx⟩ : ∃ x, K[k] = x := ⟨_, rfl⟩
      rw [hx] at hcx hd
      have HD : Hid (K.drop k = x :: K.drop (k + 1)) := hd
      clear hd hx hc h
      by_cases h0 : x = 0
      · subst h0
        go_wp2
        go_round
        case rel => exact ⟨k + 1, by go_num, by omega, by rw [HO.out, HD.out]; simp [orL, orI]⟩
        case measure => simp [intOf]; omega
      · have h0' : (x != 0) = true := by simpa using h0
        have FIN : Hid (orL K = x) := by show orL K = x; rw [HO.out, HD.out]; simp [orL, orI, h0]
        clear h0
        go_wp2
        go_ret
        exact ⟨ret_int FIN.out.symm, rfl⟩
    · have FIN : Hid (orL K = 0) := by show orL K = 0; rw [HO.out, List.drop_of_length_le (by omega)]; rfl
      go_wp2
      go_ret
      exact ⟨ret_int FIN.out.symm, rfl⟩


theorem orE_plain (w : World) (n : Nat) (K : List Int) (hs : n = w.heap.size) (hl : K.length ≤ 1000000) :
    Calls Tryd.prog 26 #[.slice (some ⟨n, 0, none⟩) K.length K.length] (w.alloc (.cells (K.map (Value.int .i64)).toArray 38)) fun e w' => e = .returned (.int .i64 (orL K)) ∧ w' = w.alloc (.cells (K.map (Value.int .i64)).toArray 38) := by
  refine orE_any _ _ _ K _ ⟨by simp [intsV], fun j u hj => ⟨_, rfl, ?_⟩⟩ hl
  rw [Addr.add_lit]
  have h := alloc_at (o := .cells (K.map (Value.int .i64)).toArray 38) hs
  have hj' : (K.map (Value.int .i64))[j]? = some u := hj
  simp [World.cell?, h, hj', -List.getElem?_map]
theorem cells26 {w w' : World} (a b : Sp) (p q : Pl) (hX : w'.heap[w.heap.size]? = some (.cells (spC a p) 33 (0, 0))) (hY : w'.heap[w.heap.size + 1]? = some (.cells (spC b q) 33 (0, 0))) :
    w'.cell? ⟨w.heap.size, 0, none⟩ = some (.int .u64 a.hi) ∧ w'.cell? ⟨w.heap.size, 1, none⟩ = some (.int .u64 a.lo) ∧ w'.cell? ⟨w.heap.size, 2, none⟩ = some (.int .u64 a.id) ∧ w'.cell? ⟨w.heap.size, 3, none⟩ = some (.int .u64 a.par) ∧ w'.cell? ⟨w.heap.size, 4, none⟩ = some (.slice p.la a.links.length p.lc) ∧ w'.cell? ⟨w.heap.size, 5, none⟩ = some (.string a.svc) ∧ w'.cell? ⟨w.heap.size, 6, none⟩ = some (.string a.op) ∧ w'.cell? ⟨w.heap.size, 7, none⟩ = some (.int .i64 a.kind) ∧ w'.cell? ⟨w.heap.size, 8, none⟩ = some (.int .i64 a.status) ∧ w'.cell? ⟨w.heap.size, 9, none⟩ = some (.int .i64 a.start) ∧ w'.cell? ⟨w.heap.size, 10, none⟩ = some (.int .i64 a.fin) ∧ w'.cell? ⟨w.heap.size, 11, none⟩ = some (.slice p.aa a.attrs.length p.ac) ∧ w'.cell? ⟨w.heap.size, 12, none⟩ = some (.slice p.ea a.events.length p.ec) ∧ w'.cell? ⟨w.heap.size + 1, 0, none⟩ = some (.int .u64 b.hi) ∧ w'.cell? ⟨w.heap.size + 1, 1, none⟩ = some (.int .u64 b.lo) ∧ w'.cell? ⟨w.heap.size + 1, 2, none⟩ = some (.int .u64 b.id) ∧ w'.cell? ⟨w.heap.size + 1, 3, none⟩ = some (.int .u64 b.par) ∧ w'.cell? ⟨w.heap.size + 1, 4, none⟩ = some (.slice q.la b.links.length q.lc) ∧ w'.cell? ⟨w.heap.size + 1, 5, none⟩ = some (.string b.svc) ∧ w'.cell? ⟨w.heap.size + 1, 6, none⟩ = some (.string b.op) ∧ w'.cell? ⟨w.heap.size + 1, 7, none⟩ = some (.int .i64 b.kind) ∧ w'.cell? ⟨w.heap.size + 1, 8, none⟩ = some (.int .i64 b.status) ∧ w'.cell? ⟨w.heap.size + 1, 9, none⟩ = some (.int .i64 b.start) ∧ w'.cell? ⟨w.heap.size + 1, 10, none⟩ = some (.int .i64 b.fin) ∧ w'.cell? ⟨w.heap.size + 1, 11, none⟩ = some (.slice q.aa b.attrs.length q.ac) ∧ w'.cell? ⟨w.heap.size + 1, 12, none⟩ = some (.slice q.ea b.events.length q.ec) :=
  ⟨blk_cell hX 0 rfl, blk_cell hX 1 rfl, blk_cell hX 2 rfl, blk_cell hX 3 rfl, blk_cell hX 4 rfl, blk_cell hX 5 rfl, blk_cell hX 6 rfl, blk_cell hX 7 rfl, blk_cell hX 8 rfl, blk_cell hX 9 rfl, blk_cell hX 10 rfl, blk_cell hX 11 rfl, blk_cell hX 12 rfl, blk_cell hY 0 rfl, blk_cell hY 1 rfl, blk_cell hY 2 rfl, blk_cell hY 3 rfl, blk_cell hY 4 rfl, blk_cell hY 5 rfl, blk_cell hY 6 rfl, blk_cell hY 7 rfl, blk_cell hY 8 rfl, blk_cell hY 9 rfl, blk_cell hY 10 rfl, blk_cell hY 11 rfl, blk_cell hY 12 rfl⟩


set_option maxHeartbeats 4000000 in
theorem join_bad (a b : Sp) (p q : Pl) (w : World) (ha : SpAt w a p) (hb : SpAt w b q) (sa : a.Small) (sb : b.Small) (hT : Tabs w) (hN : a.hi = b.hi ∧ a.lo = b.lo ∧ a.id = b.id) (hc : orL [chkS a, chkS b] ≠ 0) :
    Calls Tryd.prog 14 #[spV a p, spV b q] w fun e w' => e = .returned (.tuple #[zeroV, .int .i64 (orL [chkS a, chkS b])]) ∧ Below w.heap.size w w' := by
  have NA := name_any a p
  have NB := name_any b q
  have hg := guard_name
  have hq : ∀ W, (binOp .neq 53 (.agg #[.int .u64 a.hi, .int .u64 a.lo, .int .u64 a.id]) (.agg #[.int .u64 b.hi, .int .u64 b.lo, .int .u64 b.id])).run Tryd.prog W = .ok (.bool false) W := fun W => by
    rw [run_neq_of (eqI_name 9997 a.hi a.lo a.id b.hi b.lo b.id W)]; simp [hN]
  clear hN
  have B7 : ∀ o1 o2 o3 o4 o5 o6 o7 : Obj, Below w.heap.size w (((((((w.alloc o1).alloc o2).alloc o3).alloc o4).alloc o5).alloc o6).alloc o7).drew :=
    fun o1 o2 o3 o4 o5 o6 o7 => ((((((((Below.refl _ _).alloc (Nat.le_refl _) _).alloc (by simp) _).alloc (by simp; omega) _).alloc (by simp; omega) _).alloc (by simp; omega) _).alloc (by simp; omega) _).alloc (by simp; omega) _).drew
  have BB : ∀ o1 o2 o3 o4 o5 o6 o7 : Obj, Below (w.heap.size + 3) (((w.alloc o1).alloc o2).alloc o3) (((((((w.alloc o1).alloc o2).alloc o3).alloc o4).alloc o5).alloc o6).alloc o7).drew :=
    fun o1 o2 o3 o4 o5 o6 o7 => (((((Below.refl _ _).alloc (by simp) _).alloc (by simp) _).alloc (by simp) _).alloc (by simp) _).drew
  have X3 : (((w.alloc (.cells #[.int .u64 a.hi, .int .u64 a.lo, .int .u64 a.id, .int .u64 a.par, .slice p.la a.links.length p.lc, .string a.svc, .string a.op, .int .i64 a.kind, .int .i64 a.status, .int .i64 a.start, .int .i64 a.fin, .slice p.aa a.attrs.length p.ac, .slice p.ea a.events.length p.ec] 33)).alloc (.cells #[.int .u64 b.hi, .int .u64 b.lo, .int .u64 b.id, .int .u64 b.par, .slice q.la b.links.length q.lc, .string b.svc, .string b.op, .int .i64 b.kind, .int .i64 b.status, .int .i64 b.start, .int .i64 b.fin, .slice q.aa b.attrs.length q.ac, .slice q.ea b.events.length q.ec] 33)).alloc (.cells #[.int .u64 0, .int .u64 0, .int .u64 0, .int .u64 0, .slice none 0 0, .string ⟨#[]⟩, .string ⟨#[]⟩, .int .i64 0, .int .i64 0, .int .i64 0, .int .i64 0, .slice none 0 0, .slice none 0 0] 33)).heap[w.heap.size]? = some (.cells (spC a p) 33 (0, 0)) := (Below.heap_alloc _ _ _ (by simp; omega)).trans ((Below.heap_alloc _ _ _ (by simp)).trans (heap_alloc_new _ _))
  have Y3 : (((w.alloc (.cells #[.int .u64 a.hi, .int .u64 a.lo, .int .u64 a.id, .int .u64 a.par, .slice p.la a.links.length p.lc, .string a.svc, .string a.op, .int .i64 a.kind, .int .i64 a.status, .int .i64 a.start, .int .i64 a.fin, .slice p.aa a.attrs.length p.ac, .slice p.ea a.events.length p.ec] 33)).alloc (.cells #[.int .u64 b.hi, .int .u64 b.lo, .int .u64 b.id, .int .u64 b.par, .slice q.la b.links.length q.lc, .string b.svc, .string b.op, .int .i64 b.kind, .int .i64 b.status, .int .i64 b.start, .int .i64 b.fin, .slice q.aa b.attrs.length q.ac, .slice q.ea b.events.length q.ec] 33)).alloc (.cells #[.int .u64 0, .int .u64 0, .int .u64 0, .int .u64 0, .slice none 0 0, .string ⟨#[]⟩, .string ⟨#[]⟩, .int .i64 0, .int .i64 0, .int .i64 0, .int .i64 0, .slice none 0 0, .slice none 0 0] 33)).heap[w.heap.size + 1]? = some (.cells (spC b q) 33 (0, 0)) := (Below.heap_alloc _ _ _ (by simp)).trans (alloc_at (by simp))
  have R3 : (((w.alloc (.cells #[.int .u64 a.hi, .int .u64 a.lo, .int .u64 a.id, .int .u64 a.par, .slice p.la a.links.length p.lc, .string a.svc, .string a.op, .int .i64 a.kind, .int .i64 a.status, .int .i64 a.start, .int .i64 a.fin, .slice p.aa a.attrs.length p.ac, .slice p.ea a.events.length p.ec] 33)).alloc (.cells #[.int .u64 b.hi, .int .u64 b.lo, .int .u64 b.id, .int .u64 b.par, .slice q.la b.links.length q.lc, .string b.svc, .string b.op, .int .i64 b.kind, .int .i64 b.status, .int .i64 b.start, .int .i64 b.fin, .slice q.aa b.attrs.length q.ac, .slice q.ea b.events.length q.ec] 33)).alloc (.cells #[.int .u64 0, .int .u64 0, .int .u64 0, .int .u64 0, .slice none 0 0, .string ⟨#[]⟩, .string ⟨#[]⟩, .int .i64 0, .int .i64 0, .int .i64 0, .int .i64 0, .slice none 0 0, .slice none 0 0] 33)).heap[w.heap.size + 1 + 1]? = some (.cells #[.int .u64 0, .int .u64 0, .int .u64 0, .int .u64 0, .slice none 0 0, .string ⟨#[]⟩, .string ⟨#[]⟩, .int .i64 0, .int .i64 0, .int .i64 0, .int .i64 0, .slice none 0 0, .slice none 0 0] 33 (0, 0)) := alloc_at (by simp)
  have CA := fun w' (h : Below w.heap.size w w') => check_any a p w' (ha.below h) sa (hT.below h)
  have CB := fun w' (h : Below w.heap.size w w') => check_any b q w' (hb.below h) sb (hT.below h)
  have C26 := fun w' h1 h2 => @cells26 w w' a b p q h1 h2
  have OR := fun w' n h => orE_plain w' n [chkS a, chkS b] h (by simp)
  simp only [List.map, List.length] at OR
  obtain ⟨c, hcc⟩ : ∃ c, orL [chkS a, chkS b] = c := ⟨_, rfl⟩
  rw [hcc] at OR hc ⊢
  have HCC : Hid (orL [chkS a, chkS b] = c) := hcc
  clear hcc
  unfold spV spC at NA NB CA CB
  unfold spC at C26 X3 Y3
  unfold spV spC
  go_enter Tryd.func14, Tryd.ntmps14
  go_wp2
  go_region_held3 (fun w' => w'.cell? ⟨w.heap.size, 0, none⟩ = some (.int .u64 a.hi) ∧ w'.cell? ⟨w.heap.size, 1, none⟩ = some (.int .u64 a.lo) ∧ w'.cell? ⟨w.heap.size, 2, none⟩ = some (.int .u64 a.id) ∧ w'.cell? ⟨w.heap.size, 3, none⟩ = some (.int .u64 a.par) ∧ w'.cell? ⟨w.heap.size, 4, none⟩ = some (.slice p.la a.links.length p.lc) ∧ w'.cell? ⟨w.heap.size, 5, none⟩ = some (.string a.svc) ∧ w'.cell? ⟨w.heap.size, 6, none⟩ = some (.string a.op) ∧ w'.cell? ⟨w.heap.size, 7, none⟩ = some (.int .i64 a.kind) ∧ w'.cell? ⟨w.heap.size, 8, none⟩ = some (.int .i64 a.status) ∧ w'.cell? ⟨w.heap.size, 9, none⟩ = some (.int .i64 a.start) ∧ w'.cell? ⟨w.heap.size, 10, none⟩ = some (.int .i64 a.fin) ∧ w'.cell? ⟨w.heap.size, 11, none⟩ = some (.slice p.aa a.attrs.length p.ac) ∧ w'.cell? ⟨w.heap.size, 12, none⟩ = some (.slice p.ea a.events.length p.ec) ∧ w'.cell? ⟨w.heap.size + 1, 0, none⟩ = some (.int .u64 b.hi) ∧ w'.cell? ⟨w.heap.size + 1, 1, none⟩ = some (.int .u64 b.lo) ∧ w'.cell? ⟨w.heap.size + 1, 2, none⟩ = some (.int .u64 b.id) ∧ w'.cell? ⟨w.heap.size + 1, 3, none⟩ = some (.int .u64 b.par) ∧ w'.cell? ⟨w.heap.size + 1, 4, none⟩ = some (.slice q.la b.links.length q.lc) ∧ w'.cell? ⟨w.heap.size + 1, 5, none⟩ = some (.string b.svc) ∧ w'.cell? ⟨w.heap.size + 1, 6, none⟩ = some (.string b.op) ∧ w'.cell? ⟨w.heap.size + 1, 7, none⟩ = some (.int .i64 b.kind) ∧ w'.cell? ⟨w.heap.size + 1, 8, none⟩ = some (.int .i64 b.status) ∧ w'.cell? ⟨w.heap.size + 1, 9, none⟩ = some (.int .i64 b.start) ∧ w'.cell? ⟨w.heap.size + 1, 10, none⟩ = some (.int .i64 b.fin) ∧ w'.cell? ⟨w.heap.size + 1, 11, none⟩ = some (.slice q.aa b.attrs.length q.ac) ∧ w'.cell? ⟨w.heap.size + 1, 12, none⟩ = some (.slice q.ea b.events.length q.ec)) (simp [go_sem, World.cell?_alloc_past])
    (first
      | (go_at_call 25; refine (NA _).mono ?_; clear NA; rintro e w' ⟨rfl, rfl⟩)
      | (go_at_call 25; refine (NB _).mono ?_; clear NB; rintro e w' ⟨rfl, rfl⟩))
  go_wp2
  have b7 := B7 (.cells #[.int .u64 a.hi, .int .u64 a.lo, .int .u64 a.id, .int .u64 a.par, .slice p.la a.links.length p.lc, .string a.svc, .string a.op, .int .i64 a.kind, .int .i64 a.status, .int .i64 a.start, .int .i64 a.fin, .slice p.aa a.attrs.length p.ac, .slice p.ea a.events.length p.ec] 33) (.cells #[.int .u64 b.hi, .int .u64 b.lo, .int .u64 b.id, .int .u64 b.par, .slice q.la b.links.length q.lc, .string b.svc, .string b.op, .int .i64 b.kind, .int .i64 b.status, .int .i64 b.start, .int .i64 b.fin, .slice q.aa b.attrs.length q.ac, .slice q.ea b.events.length q.ec] 33) (.cells #[.int .u64 0, .int .u64 0, .int .u64 0, .int .u64 0, .slice none 0 0, .string ⟨#[]⟩, .string ⟨#[]⟩, .int .i64 0, .int .i64 0, .int .i64 0, .int .i64 0, .slice none 0 0, .slice none 0 0] 33) (.cells #[.int .u64 a.hi, .int .u64 a.lo, .int .u64 a.id, .int .u64 a.par, .slice p.la a.links.length p.lc, .string a.svc, .string a.op, .int .i64 a.kind, .int .i64 a.status, .int .i64 a.start, .int .i64 a.fin, .slice p.aa a.attrs.length p.ac, .slice p.ea a.events.length p.ec] 33) (.cells #[.int .u64 a.hi, .int .u64 a.lo, .int .u64 a.id] 53) (.cells #[.int .u64 b.hi, .int .u64 b.lo, .int .u64 b.id, .int .u64 b.par, .slice q.la b.links.length q.lc, .string b.svc, .string b.op, .int .i64 b.kind, .int .i64 b.status, .int .i64 b.start, .int .i64 b.fin, .slice q.aa b.attrs.length q.ac, .slice q.ea b.events.length q.ec] 33) (.cells #[.int .u64 b.hi, .int .u64 b.lo, .int .u64 b.id] 53)
  have bb7 := BB (.cells #[.int .u64 a.hi, .int .u64 a.lo, .int .u64 a.id, .int .u64 a.par, .slice p.la a.links.length p.lc, .string a.svc, .string a.op, .int .i64 a.kind, .int .i64 a.status, .int .i64 a.start, .int .i64 a.fin, .slice p.aa a.attrs.length p.ac, .slice p.ea a.events.length p.ec] 33) (.cells #[.int .u64 b.hi, .int .u64 b.lo, .int .u64 b.id, .int .u64 b.par, .slice q.la b.links.length q.lc, .string b.svc, .string b.op, .int .i64 b.kind, .int .i64 b.status, .int .i64 b.start, .int .i64 b.fin, .slice q.aa b.attrs.length q.ac, .slice q.ea b.events.length q.ec] 33) (.cells #[.int .u64 0, .int .u64 0, .int .u64 0, .int .u64 0, .slice none 0 0, .string ⟨#[]⟩, .string ⟨#[]⟩, .int .i64 0, .int .i64 0, .int .i64 0, .int .i64 0, .slice none 0 0, .slice none 0 0] 33) (.cells #[.int .u64 a.hi, .int .u64 a.lo, .int .u64 a.id, .int .u64 a.par, .slice p.la a.links.length p.lc, .string a.svc, .string a.op, .int .i64 a.kind, .int .i64 a.status, .int .i64 a.start, .int .i64 a.fin, .slice p.aa a.attrs.length p.ac, .slice p.ea a.events.length p.ec] 33) (.cells #[.int .u64 a.hi, .int .u64 a.lo, .int .u64 a.id] 53) (.cells #[.int .u64 b.hi, .int .u64 b.lo, .int .u64 b.id, .int .u64 b.par, .slice q.la b.links.length q.lc, .string b.svc, .string b.op, .int .i64 b.kind, .int .i64 b.status, .int .i64 b.start, .int .i64 b.fin, .slice q.aa b.attrs.length q.ac, .slice q.ea b.events.length q.ec] 33) (.cells #[.int .u64 b.hi, .int .u64 b.lo, .int .u64 b.id] 53)
  have X7 := (bb7.block w.heap.size (by omega)).trans X3
  have Y7 := (bb7.block (w.heap.size + 1) (by omega)).trans Y3
  have R7 := (bb7.block (w.heap.size + 1 + 1) (by omega)).trans R3
  have z7 := bb7.size
  simp only [World.size_alloc'] at z7
  generalize (((((((w.alloc (.cells #[.int .u64 a.hi, .int .u64 a.lo, .int .u64 a.id, .int .u64 a.par, .slice p.la a.links.length p.lc, .string a.svc, .string a.op, .int .i64 a.kind, .int .i64 a.status, .int .i64 a.start, .int .i64 a.fin, .slice p.aa a.attrs.length p.ac, .slice p.ea a.events.length p.ec] 33)).alloc (.cells #[.int .u64 b.hi, .int .u64 b.lo, .int .u64 b.id, .int .u64 b.par, .slice q.la b.links.length q.lc, .string b.svc, .string b.op, .int .i64 b.kind, .int .i64 b.status, .int .i64 b.start, .int .i64 b.fin, .slice q.aa b.attrs.length q.ac, .slice q.ea b.events.length q.ec] 33)).alloc (.cells #[.int .u64 0, .int .u64 0, .int .u64 0, .int .u64 0, .slice none 0 0, .string ⟨#[]⟩, .string ⟨#[]⟩, .int .i64 0, .int .i64 0, .int .i64 0, .int .i64 0, .slice none 0 0, .slice none 0 0] 33)).alloc (.cells #[.int .u64 a.hi, .int .u64 a.lo, .int .u64 a.id, .int .u64 a.par, .slice p.la a.links.length p.lc, .string a.svc, .string a.op, .int .i64 a.kind, .int .i64 a.status, .int .i64 a.start, .int .i64 a.fin, .slice p.aa a.attrs.length p.ac, .slice p.ea a.events.length p.ec] 33)).alloc (.cells #[.int .u64 a.hi, .int .u64 a.lo, .int .u64 a.id] 53)).alloc (.cells #[.int .u64 b.hi, .int .u64 b.lo, .int .u64 b.id, .int .u64 b.par, .slice q.la b.links.length q.lc, .string b.svc, .string b.op, .int .i64 b.kind, .int .i64 b.status, .int .i64 b.start, .int .i64 b.fin, .slice q.aa b.attrs.length q.ac, .slice q.ea b.events.length q.ec] 33)).alloc (.cells #[.int .u64 b.hi, .int .u64 b.lo, .int .u64 b.id] 53)).drew = w7 at b7 X7 Y7 R7 z7 bb7 ⊢
  clear B7 BB bb7 X3 Y3 R3 hq hg
  have S7 := C26 w7 X7 Y7
  go_region_held3 (fun w' => w'.cell? ⟨w.heap.size, 0, none⟩ = some (.int .u64 a.hi) ∧ w'.cell? ⟨w.heap.size, 1, none⟩ = some (.int .u64 a.lo) ∧ w'.cell? ⟨w.heap.size, 2, none⟩ = some (.int .u64 a.id) ∧ w'.cell? ⟨w.heap.size, 3, none⟩ = some (.int .u64 a.par) ∧ w'.cell? ⟨w.heap.size, 4, none⟩ = some (.slice p.la a.links.length p.lc) ∧ w'.cell? ⟨w.heap.size, 5, none⟩ = some (.string a.svc) ∧ w'.cell? ⟨w.heap.size, 6, none⟩ = some (.string a.op) ∧ w'.cell? ⟨w.heap.size, 7, none⟩ = some (.int .i64 a.kind) ∧ w'.cell? ⟨w.heap.size, 8, none⟩ = some (.int .i64 a.status) ∧ w'.cell? ⟨w.heap.size, 9, none⟩ = some (.int .i64 a.start) ∧ w'.cell? ⟨w.heap.size, 10, none⟩ = some (.int .i64 a.fin) ∧ w'.cell? ⟨w.heap.size, 11, none⟩ = some (.slice p.aa a.attrs.length p.ac) ∧ w'.cell? ⟨w.heap.size, 12, none⟩ = some (.slice p.ea a.events.length p.ec) ∧ w'.cell? ⟨w.heap.size + 1, 0, none⟩ = some (.int .u64 b.hi) ∧ w'.cell? ⟨w.heap.size + 1, 1, none⟩ = some (.int .u64 b.lo) ∧ w'.cell? ⟨w.heap.size + 1, 2, none⟩ = some (.int .u64 b.id) ∧ w'.cell? ⟨w.heap.size + 1, 3, none⟩ = some (.int .u64 b.par) ∧ w'.cell? ⟨w.heap.size + 1, 4, none⟩ = some (.slice q.la b.links.length q.lc) ∧ w'.cell? ⟨w.heap.size + 1, 5, none⟩ = some (.string b.svc) ∧ w'.cell? ⟨w.heap.size + 1, 6, none⟩ = some (.string b.op) ∧ w'.cell? ⟨w.heap.size + 1, 7, none⟩ = some (.int .i64 b.kind) ∧ w'.cell? ⟨w.heap.size + 1, 8, none⟩ = some (.int .i64 b.status) ∧ w'.cell? ⟨w.heap.size + 1, 9, none⟩ = some (.int .i64 b.start) ∧ w'.cell? ⟨w.heap.size + 1, 10, none⟩ = some (.int .i64 b.fin) ∧ w'.cell? ⟨w.heap.size + 1, 11, none⟩ = some (.slice q.aa b.attrs.length q.ac) ∧ w'.cell? ⟨w.heap.size + 1, 12, none⟩ = some (.slice q.ea b.events.length q.ec)) (first | exact S7 | exact S8 | exact S9 | exact S10 _)
    (first
      | (go_at_call 13; refine (CA _ b7.drew).mono ?_; clear CA; rintro e w8 ⟨rfl, b8⟩; have X8 := (b8.block _ (lt_of_block X7)).trans X7; have Y8 := (b8.block _ (lt_of_block Y7)).trans Y7; have R8 := (b8.block _ (lt_of_block R7)).trans R7; have S8 := C26 w8 X8 Y8; have bw8 := b7.drew.trans (b8.mono b7.drew.size); clear S7)
      | (go_at_call 13; refine (CB _ bw8).mono ?_; clear CB; rintro e w9 ⟨rfl, b9⟩; have X9 := (b9.block _ (lt_of_block X8)).trans X8; have Y9 := (b9.block _ (lt_of_block Y8)).trans Y8; have R9 := (b9.block _ (lt_of_block R8)).trans R8; have S9 := C26 w9 X9 Y9; have bw9 := bw8.trans (b9.mono bw8.size); have S10 := fun o => C26 (w9.alloc o) ((Below.heap_alloc w9 o _ (lt_of_block X9)).trans X9) ((Below.heap_alloc w9 o _ (lt_of_block Y9)).trans Y9); clear S8)
      | (go_at_call 26; refine (OR _ _ rfl).mono ?_; rintro e w' ⟨rfl, rfl⟩))
  have bwA := bw9.alloc bw9.size (.cells #[.int .i64 (chkS a), .int .i64 (chkS b)] 38)
  have XA := (Below.heap_alloc w9 (.cells #[.int .i64 (chkS a), .int .i64 (chkS b)] 38) _ (lt_of_block X9)).trans X9
  have YA := (Below.heap_alloc w9 (.cells #[.int .i64 (chkS a), .int .i64 (chkS b)] 38) _ (lt_of_block Y9)).trans Y9
  have RA := (Below.heap_alloc w9 (.cells #[.int .i64 (chkS a), .int .i64 (chkS b)] 38) _ (lt_of_block R9)).trans R9
  generalize w9.alloc (.cells #[.int .i64 (chkS a), .int .i64 (chkS b)] 38) = wA at bwA XA YA RA ⊢
  clear S9 S10 X9 Y9 R9 X8 Y8 R8 X7 Y7 R7
  have hc' : (c != 0) = true := by simpa using hc
  clear hc
  have o0 := blk_cell RA 0 rfl
  have f0 := blk_free RA 0
  have o1 := blk_cell RA 1 rfl
  have f1 := blk_free RA 1
  have o2 := blk_cell RA 2 rfl
  have f2 := blk_free RA 2
  have o3 := blk_cell RA 3 rfl
  have f3 := blk_free RA 3
  have o4 := blk_cell RA 4 rfl
  have f4 := blk_free RA 4
  have o5 := blk_cell RA 5 rfl
  have f5 := blk_free RA 5
  have o6 := blk_cell RA 6 rfl
  have f6 := blk_free RA 6
  have o7 := blk_cell RA 7 rfl
  have f7 := blk_free RA 7
  have o8 := blk_cell RA 8 rfl
  have f8 := blk_free RA 8
  have o9 := blk_cell RA 9 rfl
  have f9 := blk_free RA 9
  have o10 := blk_cell RA 10 rfl
  have f10 := blk_free RA 10
  have o11 := blk_cell RA 11 rfl
  have f11 := blk_free RA 11
  have o12 := blk_cell RA 12 rfl
  have f12 := blk_free RA 12
  go_wp2
  (try simp only [Exit.inBlock, Exit.then])
  rw [set13_eq wA (w.heap.size + 1 + 1) 33 _ _ _ _ _ _ _ _ _ _ _ _ _ _ _ _ _ _ _ _ _ _ _ _ _ _ RA]
  have hrow := setRow_heap wA (w.heap.size + 1 + 1) _ #[.int .u64 0, .int .u64 0, .int .u64 0, .int .u64 0, .slice none 0 0, .string ⟨#[]⟩, .string ⟨#[]⟩, .int .i64 0, .int .i64 0, .int .i64 0, .int .i64 0, .slice none 0 0, .slice none 0 0] 33 (0, 0) RA
  have hld := run_loadVar_row (P := Tryd.prog) (wA.setRow (w.heap.size + 1 + 1) #[.int .u64 0, .int .u64 0, .int .u64 0, .int .u64 0, .slice none 0 0, .string ⟨#[]⟩, .string ⟨#[]⟩, .int .i64 0, .int .i64 0, .int .i64 0, .int .i64 0, .slice none 0 0, .slice none 0 0]) (w.heap.size + 1 + 1) 33 33 #[.int .u64 0, .int .u64 0, .int .u64 0, .int .u64 0, .slice none 0 0, .string ⟨#[]⟩, .string ⟨#[]⟩, .int .i64 0, .int .i64 0, .int .i64 0, .int .i64 0, .slice none 0 0, .slice none 0 0] (0, 0) _ hrow Tryd.underlying33 rfl Tryd.info33
  refine bodyPost_ret (v := .tuple #[.agg #[.int .u64 0, .int .u64 0, .int .u64 0, .int .u64 0, .slice none 0 0, .string ⟨#[]⟩, .string ⟨#[]⟩, .int .i64 0, .int .i64 0, .int .i64 0, .int .i64 0, .slice none 0 0, .slice none 0 0], .int .i64 c]) ?_ rfl ⟨rfl, below_setRow bwA (by omega) _⟩
  rw [results_cell_tmp rfl]
  simp [asAddr, Result.andThen, hld]

set_option maxHeartbeats 4000000 in
theorem join_ok (a b : Sp) (p q : Pl) (w : World) (ha : SpAt w a p) (hb : SpAt w b q) (sa : a.Small) (sb : b.Small) (hT : Tabs w) (hN : a.hi = b.hi ∧ a.lo = b.lo ∧ a.id = b.id) (ca : chkS a = 0) (cb : chkS b = 0) :
    Calls Tryd.prog 14 #[spV a p, spV b q] w fun e w' => ∃ r, e = .returned (.tuple #[spV (if cmpP a b < 0 then b else a) r, .int .i64 0]) ∧ SpAt w' (if cmpP a b < 0 then b else a) r ∧ Below w.heap.size w w' := by
  have ga := chk_good ca
  have gb := chk_good cb
  have la := ga.links; have la2 := ga.attrs; have la3 := ga.events
  have lb := gb.links; have lb2 := gb.attrs; have lb3 := gb.events
  have CM := fun w' (h : Below w.heap.size w w') => compare_any a b p q w' (ha.below h) (hb.below h)
  have CLa := fun w' (h : Below w.heap.size w w') => clone_any a p w' (ha.below h) (by omega) (by omega) (by omega)
  have CLb := fun w' (h : Below w.heap.size w w') => clone_any b q w' (hb.below h) (by omega) (by omega) (by omega)
  obtain ⟨m, hm⟩ : ∃ m, cmpP a b = m := ⟨_, rfl⟩
  rw [hm] at CM ⊢
  have NA := name_any a p
  have NB := name_any b q
  have hg := guard_name
  have hq : ∀ W, (binOp .neq 53 (.agg #[.int .u64 a.hi, .int .u64 a.lo, .int .u64 a.id]) (.agg #[.int .u64 b.hi, .int .u64 b.lo, .int .u64 b.id])).run Tryd.prog W = .ok (.bool false) W := fun W => by
    rw [run_neq_of (eqI_name 9997 a.hi a.lo a.id b.hi b.lo b.id W)]; simp [hN]
  clear hN
  have B7 : ∀ o1 o2 o3 o4 o5 o6 o7 : Obj, Below w.heap.size w (((((((w.alloc o1).alloc o2).alloc o3).alloc o4).alloc o5).alloc o6).alloc o7).drew :=
    fun o1 o2 o3 o4 o5 o6 o7 => ((((((((Below.refl _ _).alloc (Nat.le_refl _) _).alloc (by simp) _).alloc (by simp; omega) _).alloc (by simp; omega) _).alloc (by simp; omega) _).alloc (by simp; omega) _).alloc (by simp; omega) _).drew
  have BB : ∀ o1 o2 o3 o4 o5 o6 o7 : Obj, Below (w.heap.size + 3) (((w.alloc o1).alloc o2).alloc o3) (((((((w.alloc o1).alloc o2).alloc o3).alloc o4).alloc o5).alloc o6).alloc o7).drew :=
    fun o1 o2 o3 o4 o5 o6 o7 => (((((Below.refl _ _).alloc (by simp) _).alloc (by simp) _).alloc (by simp) _).alloc (by simp) _).drew
  have X3 : (((w.alloc (.cells #[.int .u64 a.hi, .int .u64 a.lo, .int .u64 a.id, .int .u64 a.par, .slice p.la a.links.length p.lc, .string a.svc, .string a.op, .int .i64 a.kind, .int .i64 a.status, .int .i64 a.start, .int .i64 a.fin, .slice p.aa a.attrs.length p.ac, .slice p.ea a.events.length p.ec] 33)).alloc (.cells #[.int .u64 b.hi, .int .u64 b.lo, .int .u64 b.id, .int .u64 b.par, .slice q.la b.links.length q.lc, .string b.svc, .string b.op, .int .i64 b.kind, .int .i64 b.status, .int .i64 b.start, .int .i64 b.fin, .slice q.aa b.attrs.length q.ac, .slice q.ea b.events.length q.ec] 33)).alloc (.cells #[.int .u64 0, .int .u64 0, .int .u64 0, .int .u64 0, .slice none 0 0, .string ⟨#[]⟩, .string ⟨#[]⟩, .int .i64 0, .int .i64 0, .int .i64 0, .int .i64 0, .slice none 0 0, .slice none 0 0] 33)).heap[w.heap.size]? = some (.cells (spC a p) 33 (0, 0)) := (Below.heap_alloc _ _ _ (by simp; omega)).trans ((Below.heap_alloc _ _ _ (by simp)).trans (heap_alloc_new _ _))
  have Y3 : (((w.alloc (.cells #[.int .u64 a.hi, .int .u64 a.lo, .int .u64 a.id, .int .u64 a.par, .slice p.la a.links.length p.lc, .string a.svc, .string a.op, .int .i64 a.kind, .int .i64 a.status, .int .i64 a.start, .int .i64 a.fin, .slice p.aa a.attrs.length p.ac, .slice p.ea a.events.length p.ec] 33)).alloc (.cells #[.int .u64 b.hi, .int .u64 b.lo, .int .u64 b.id, .int .u64 b.par, .slice q.la b.links.length q.lc, .string b.svc, .string b.op, .int .i64 b.kind, .int .i64 b.status, .int .i64 b.start, .int .i64 b.fin, .slice q.aa b.attrs.length q.ac, .slice q.ea b.events.length q.ec] 33)).alloc (.cells #[.int .u64 0, .int .u64 0, .int .u64 0, .int .u64 0, .slice none 0 0, .string ⟨#[]⟩, .string ⟨#[]⟩, .int .i64 0, .int .i64 0, .int .i64 0, .int .i64 0, .slice none 0 0, .slice none 0 0] 33)).heap[w.heap.size + 1]? = some (.cells (spC b q) 33 (0, 0)) := (Below.heap_alloc _ _ _ (by simp)).trans (alloc_at (by simp))
  have R3 : (((w.alloc (.cells #[.int .u64 a.hi, .int .u64 a.lo, .int .u64 a.id, .int .u64 a.par, .slice p.la a.links.length p.lc, .string a.svc, .string a.op, .int .i64 a.kind, .int .i64 a.status, .int .i64 a.start, .int .i64 a.fin, .slice p.aa a.attrs.length p.ac, .slice p.ea a.events.length p.ec] 33)).alloc (.cells #[.int .u64 b.hi, .int .u64 b.lo, .int .u64 b.id, .int .u64 b.par, .slice q.la b.links.length q.lc, .string b.svc, .string b.op, .int .i64 b.kind, .int .i64 b.status, .int .i64 b.start, .int .i64 b.fin, .slice q.aa b.attrs.length q.ac, .slice q.ea b.events.length q.ec] 33)).alloc (.cells #[.int .u64 0, .int .u64 0, .int .u64 0, .int .u64 0, .slice none 0 0, .string ⟨#[]⟩, .string ⟨#[]⟩, .int .i64 0, .int .i64 0, .int .i64 0, .int .i64 0, .slice none 0 0, .slice none 0 0] 33)).heap[w.heap.size + 1 + 1]? = some (.cells #[.int .u64 0, .int .u64 0, .int .u64 0, .int .u64 0, .slice none 0 0, .string ⟨#[]⟩, .string ⟨#[]⟩, .int .i64 0, .int .i64 0, .int .i64 0, .int .i64 0, .slice none 0 0, .slice none 0 0] 33 (0, 0)) := alloc_at (by simp)
  have CA := fun w' (h : Below w.heap.size w w') => check_any a p w' (ha.below h) sa (hT.below h)
  have CB := fun w' (h : Below w.heap.size w w') => check_any b q w' (hb.below h) sb (hT.below h)
  have C26 := fun w' h1 h2 => @cells26 w w' a b p q h1 h2
  have OR := fun w' n h => orE_plain w' n [chkS a, chkS b] h (by simp)
  simp only [List.map, List.length] at OR
  rw [show orL [chkS a, chkS b] = 0 by rw [ca, cb]; rfl] at OR
  clear ga gb hm ca cb
  unfold spV spC at NA NB CA CB CM CLa CLb
  unfold spC at C26 X3 Y3
  unfold spV spC
  by_cases hlt : m < 0
  · simp only [hlt, if_true]
    clear CLa
    go_enter Tryd.func14, Tryd.ntmps14
    go_wp2
    go_region_held3 (fun w' => w'.cell? ⟨w.heap.size, 0, none⟩ = some (.int .u64 a.hi) ∧ w'.cell? ⟨w.heap.size, 1, none⟩ = some (.int .u64 a.lo) ∧ w'.cell? ⟨w.heap.size, 2, none⟩ = some (.int .u64 a.id) ∧ w'.cell? ⟨w.heap.size, 3, none⟩ = some (.int .u64 a.par) ∧ w'.cell? ⟨w.heap.size, 4, none⟩ = some (.slice p.la a.links.length p.lc) ∧ w'.cell? ⟨w.heap.size, 5, none⟩ = some (.string a.svc) ∧ w'.cell? ⟨w.heap.size, 6, none⟩ = some (.string a.op) ∧ w'.cell? ⟨w.heap.size, 7, none⟩ = some (.int .i64 a.kind) ∧ w'.cell? ⟨w.heap.size, 8, none⟩ = some (.int .i64 a.status) ∧ w'.cell? ⟨w.heap.size, 9, none⟩ = some (.int .i64 a.start) ∧ w'.cell? ⟨w.heap.size, 10, none⟩ = some (.int .i64 a.fin) ∧ w'.cell? ⟨w.heap.size, 11, none⟩ = some (.slice p.aa a.attrs.length p.ac) ∧ w'.cell? ⟨w.heap.size, 12, none⟩ = some (.slice p.ea a.events.length p.ec) ∧ w'.cell? ⟨w.heap.size + 1, 0, none⟩ = some (.int .u64 b.hi) ∧ w'.cell? ⟨w.heap.size + 1, 1, none⟩ = some (.int .u64 b.lo) ∧ w'.cell? ⟨w.heap.size + 1, 2, none⟩ = some (.int .u64 b.id) ∧ w'.cell? ⟨w.heap.size + 1, 3, none⟩ = some (.int .u64 b.par) ∧ w'.cell? ⟨w.heap.size + 1, 4, none⟩ = some (.slice q.la b.links.length q.lc) ∧ w'.cell? ⟨w.heap.size + 1, 5, none⟩ = some (.string b.svc) ∧ w'.cell? ⟨w.heap.size + 1, 6, none⟩ = some (.string b.op) ∧ w'.cell? ⟨w.heap.size + 1, 7, none⟩ = some (.int .i64 b.kind) ∧ w'.cell? ⟨w.heap.size + 1, 8, none⟩ = some (.int .i64 b.status) ∧ w'.cell? ⟨w.heap.size + 1, 9, none⟩ = some (.int .i64 b.start) ∧ w'.cell? ⟨w.heap.size + 1, 10, none⟩ = some (.int .i64 b.fin) ∧ w'.cell? ⟨w.heap.size + 1, 11, none⟩ = some (.slice q.aa b.attrs.length q.ac) ∧ w'.cell? ⟨w.heap.size + 1, 12, none⟩ = some (.slice q.ea b.events.length q.ec)) (simp [go_sem, World.cell?_alloc_past])
      (first
        | (go_at_call 25; refine (NA _).mono ?_; clear NA; rintro e w' ⟨rfl, rfl⟩)
        | (go_at_call 25; refine (NB _).mono ?_; clear NB; rintro e w' ⟨rfl, rfl⟩))
    go_wp2
    have b7 := B7 (.cells #[.int .u64 a.hi, .int .u64 a.lo, .int .u64 a.id, .int .u64 a.par, .slice p.la a.links.length p.lc, .string a.svc, .string a.op, .int .i64 a.kind, .int .i64 a.status, .int .i64 a.start, .int .i64 a.fin, .slice p.aa a.attrs.length p.ac, .slice p.ea a.events.length p.ec] 33) (.cells #[.int .u64 b.hi, .int .u64 b.lo, .int .u64 b.id, .int .u64 b.par, .slice q.la b.links.length q.lc, .string b.svc, .string b.op, .int .i64 b.kind, .int .i64 b.status, .int .i64 b.start, .int .i64 b.fin, .slice q.aa b.attrs.length q.ac, .slice q.ea b.events.length q.ec] 33) (.cells #[.int .u64 0, .int .u64 0, .int .u64 0, .int .u64 0, .slice none 0 0, .string ⟨#[]⟩, .string ⟨#[]⟩, .int .i64 0, .int .i64 0, .int .i64 0, .int .i64 0, .slice none 0 0, .slice none 0 0] 33) (.cells #[.int .u64 a.hi, .int .u64 a.lo, .int .u64 a.id, .int .u64 a.par, .slice p.la a.links.length p.lc, .string a.svc, .string a.op, .int .i64 a.kind, .int .i64 a.status, .int .i64 a.start, .int .i64 a.fin, .slice p.aa a.attrs.length p.ac, .slice p.ea a.events.length p.ec] 33) (.cells #[.int .u64 a.hi, .int .u64 a.lo, .int .u64 a.id] 53) (.cells #[.int .u64 b.hi, .int .u64 b.lo, .int .u64 b.id, .int .u64 b.par, .slice q.la b.links.length q.lc, .string b.svc, .string b.op, .int .i64 b.kind, .int .i64 b.status, .int .i64 b.start, .int .i64 b.fin, .slice q.aa b.attrs.length q.ac, .slice q.ea b.events.length q.ec] 33) (.cells #[.int .u64 b.hi, .int .u64 b.lo, .int .u64 b.id] 53)
    have bb7 := BB (.cells #[.int .u64 a.hi, .int .u64 a.lo, .int .u64 a.id, .int .u64 a.par, .slice p.la a.links.length p.lc, .string a.svc, .string a.op, .int .i64 a.kind, .int .i64 a.status, .int .i64 a.start, .int .i64 a.fin, .slice p.aa a.attrs.length p.ac, .slice p.ea a.events.length p.ec] 33) (.cells #[.int .u64 b.hi, .int .u64 b.lo, .int .u64 b.id, .int .u64 b.par, .slice q.la b.links.length q.lc, .string b.svc, .string b.op, .int .i64 b.kind, .int .i64 b.status, .int .i64 b.start, .int .i64 b.fin, .slice q.aa b.attrs.length q.ac, .slice q.ea b.events.length q.ec] 33) (.cells #[.int .u64 0, .int .u64 0, .int .u64 0, .int .u64 0, .slice none 0 0, .string ⟨#[]⟩, .string ⟨#[]⟩, .int .i64 0, .int .i64 0, .int .i64 0, .int .i64 0, .slice none 0 0, .slice none 0 0] 33) (.cells #[.int .u64 a.hi, .int .u64 a.lo, .int .u64 a.id, .int .u64 a.par, .slice p.la a.links.length p.lc, .string a.svc, .string a.op, .int .i64 a.kind, .int .i64 a.status, .int .i64 a.start, .int .i64 a.fin, .slice p.aa a.attrs.length p.ac, .slice p.ea a.events.length p.ec] 33) (.cells #[.int .u64 a.hi, .int .u64 a.lo, .int .u64 a.id] 53) (.cells #[.int .u64 b.hi, .int .u64 b.lo, .int .u64 b.id, .int .u64 b.par, .slice q.la b.links.length q.lc, .string b.svc, .string b.op, .int .i64 b.kind, .int .i64 b.status, .int .i64 b.start, .int .i64 b.fin, .slice q.aa b.attrs.length q.ac, .slice q.ea b.events.length q.ec] 33) (.cells #[.int .u64 b.hi, .int .u64 b.lo, .int .u64 b.id] 53)
    have X7 := (bb7.block w.heap.size (by omega)).trans X3
    have Y7 := (bb7.block (w.heap.size + 1) (by omega)).trans Y3
    have R7 := (bb7.block (w.heap.size + 1 + 1) (by omega)).trans R3
    have z7 := bb7.size
    simp only [World.size_alloc'] at z7
    generalize (((((((w.alloc (.cells #[.int .u64 a.hi, .int .u64 a.lo, .int .u64 a.id, .int .u64 a.par, .slice p.la a.links.length p.lc, .string a.svc, .string a.op, .int .i64 a.kind, .int .i64 a.status, .int .i64 a.start, .int .i64 a.fin, .slice p.aa a.attrs.length p.ac, .slice p.ea a.events.length p.ec] 33)).alloc (.cells #[.int .u64 b.hi, .int .u64 b.lo, .int .u64 b.id, .int .u64 b.par, .slice q.la b.links.length q.lc, .string b.svc, .string b.op, .int .i64 b.kind, .int .i64 b.status, .int .i64 b.start, .int .i64 b.fin, .slice q.aa b.attrs.length q.ac, .slice q.ea b.events.length q.ec] 33)).alloc (.cells #[.int .u64 0, .int .u64 0, .int .u64 0, .int .u64 0, .slice none 0 0, .string ⟨#[]⟩, .string ⟨#[]⟩, .int .i64 0, .int .i64 0, .int .i64 0, .int .i64 0, .slice none 0 0, .slice none 0 0] 33)).alloc (.cells #[.int .u64 a.hi, .int .u64 a.lo, .int .u64 a.id, .int .u64 a.par, .slice p.la a.links.length p.lc, .string a.svc, .string a.op, .int .i64 a.kind, .int .i64 a.status, .int .i64 a.start, .int .i64 a.fin, .slice p.aa a.attrs.length p.ac, .slice p.ea a.events.length p.ec] 33)).alloc (.cells #[.int .u64 a.hi, .int .u64 a.lo, .int .u64 a.id] 53)).alloc (.cells #[.int .u64 b.hi, .int .u64 b.lo, .int .u64 b.id, .int .u64 b.par, .slice q.la b.links.length q.lc, .string b.svc, .string b.op, .int .i64 b.kind, .int .i64 b.status, .int .i64 b.start, .int .i64 b.fin, .slice q.aa b.attrs.length q.ac, .slice q.ea b.events.length q.ec] 33)).alloc (.cells #[.int .u64 b.hi, .int .u64 b.lo, .int .u64 b.id] 53)).drew = w7 at b7 X7 Y7 R7 z7 bb7 ⊢
    clear B7 BB bb7 X3 Y3 R3 hq hg
    have S7 := C26 w7 X7 Y7
    go_region_held3 (fun w' => w'.cell? ⟨w.heap.size, 0, none⟩ = some (.int .u64 a.hi) ∧ w'.cell? ⟨w.heap.size, 1, none⟩ = some (.int .u64 a.lo) ∧ w'.cell? ⟨w.heap.size, 2, none⟩ = some (.int .u64 a.id) ∧ w'.cell? ⟨w.heap.size, 3, none⟩ = some (.int .u64 a.par) ∧ w'.cell? ⟨w.heap.size, 4, none⟩ = some (.slice p.la a.links.length p.lc) ∧ w'.cell? ⟨w.heap.size, 5, none⟩ = some (.string a.svc) ∧ w'.cell? ⟨w.heap.size, 6, none⟩ = some (.string a.op) ∧ w'.cell? ⟨w.heap.size, 7, none⟩ = some (.int .i64 a.kind) ∧ w'.cell? ⟨w.heap.size, 8, none⟩ = some (.int .i64 a.status) ∧ w'.cell? ⟨w.heap.size, 9, none⟩ = some (.int .i64 a.start) ∧ w'.cell? ⟨w.heap.size, 10, none⟩ = some (.int .i64 a.fin) ∧ w'.cell? ⟨w.heap.size, 11, none⟩ = some (.slice p.aa a.attrs.length p.ac) ∧ w'.cell? ⟨w.heap.size, 12, none⟩ = some (.slice p.ea a.events.length p.ec) ∧ w'.cell? ⟨w.heap.size + 1, 0, none⟩ = some (.int .u64 b.hi) ∧ w'.cell? ⟨w.heap.size + 1, 1, none⟩ = some (.int .u64 b.lo) ∧ w'.cell? ⟨w.heap.size + 1, 2, none⟩ = some (.int .u64 b.id) ∧ w'.cell? ⟨w.heap.size + 1, 3, none⟩ = some (.int .u64 b.par) ∧ w'.cell? ⟨w.heap.size + 1, 4, none⟩ = some (.slice q.la b.links.length q.lc) ∧ w'.cell? ⟨w.heap.size + 1, 5, none⟩ = some (.string b.svc) ∧ w'.cell? ⟨w.heap.size + 1, 6, none⟩ = some (.string b.op) ∧ w'.cell? ⟨w.heap.size + 1, 7, none⟩ = some (.int .i64 b.kind) ∧ w'.cell? ⟨w.heap.size + 1, 8, none⟩ = some (.int .i64 b.status) ∧ w'.cell? ⟨w.heap.size + 1, 9, none⟩ = some (.int .i64 b.start) ∧ w'.cell? ⟨w.heap.size + 1, 10, none⟩ = some (.int .i64 b.fin) ∧ w'.cell? ⟨w.heap.size + 1, 11, none⟩ = some (.slice q.aa b.attrs.length q.ac) ∧ w'.cell? ⟨w.heap.size + 1, 12, none⟩ = some (.slice q.ea b.events.length q.ec)) (first | exact S7 | exact S8 | exact S9 | exact S10 _)
      (first
        | (go_at_call 13; refine (CA _ b7.drew).mono ?_; clear CA; rintro e w8 ⟨rfl, b8⟩; have X8 := (b8.block _ (lt_of_block X7)).trans X7; have Y8 := (b8.block _ (lt_of_block Y7)).trans Y7; have R8 := (b8.block _ (lt_of_block R7)).trans R7; have S8 := C26 w8 X8 Y8; have bw8 := b7.drew.trans (b8.mono b7.drew.size); clear S7)
        | (go_at_call 13; refine (CB _ bw8).mono ?_; clear CB; rintro e w9 ⟨rfl, b9⟩; have X9 := (b9.block _ (lt_of_block X8)).trans X8; have Y9 := (b9.block _ (lt_of_block Y8)).trans Y8; have R9 := (b9.block _ (lt_of_block R8)).trans R8; have S9 := C26 w9 X9 Y9; have bw9 := bw8.trans (b9.mono bw8.size); have S10 := fun o => C26 (w9.alloc o) ((Below.heap_alloc w9 o _ (lt_of_block X9)).trans X9) ((Below.heap_alloc w9 o _ (lt_of_block Y9)).trans Y9); clear S8)
        | (go_at_call 26; refine (OR _ _ rfl).mono ?_; rintro e w' ⟨rfl, rfl⟩))
    have bwA := bw9.alloc bw9.size (.cells #[.int .i64 (chkS a), .int .i64 (chkS b)] 38)
    have XA := (Below.heap_alloc w9 (.cells #[.int .i64 (chkS a), .int .i64 (chkS b)] 38) _ (lt_of_block X9)).trans X9
    have YA := (Below.heap_alloc w9 (.cells #[.int .i64 (chkS a), .int .i64 (chkS b)] 38) _ (lt_of_block Y9)).trans Y9
    have RA := (Below.heap_alloc w9 (.cells #[.int .i64 (chkS a), .int .i64 (chkS b)] 38) _ (lt_of_block R9)).trans R9
    generalize w9.alloc (.cells #[.int .i64 (chkS a), .int .i64 (chkS b)] 38) = wA at bwA XA YA RA ⊢
    clear S9 S10 X9 Y9 R9 X8 Y8 R8 X7 Y7 R7
    have g0 := blk_cell XA 0 rfl
    have h0 := blk_cell YA 0 rfl
    have g1 := blk_cell XA 1 rfl
    have h1 := blk_cell YA 1 rfl
    have g2 := blk_cell XA 2 rfl
    have h2 := blk_cell YA 2 rfl
    have g3 := blk_cell XA 3 rfl
    have h3 := blk_cell YA 3 rfl
    have g4 := blk_cell XA 4 rfl
    have h4 := blk_cell YA 4 rfl
    have g5 := blk_cell XA 5 rfl
    have h5 := blk_cell YA 5 rfl
    have g6 := blk_cell XA 6 rfl
    have h6 := blk_cell YA 6 rfl
    have g7 := blk_cell XA 7 rfl
    have h7 := blk_cell YA 7 rfl
    have g8 := blk_cell XA 8 rfl
    have h8 := blk_cell YA 8 rfl
    have g9 := blk_cell XA 9 rfl
    have h9 := blk_cell YA 9 rfl
    have g10 := blk_cell XA 10 rfl
    have h10 := blk_cell YA 10 rfl
    have g11 := blk_cell XA 11 rfl
    have h11 := blk_cell YA 11 rfl
    have g12 := blk_cell XA 12 rfl
    have h12 := blk_cell YA 12 rfl
    go_wp2_with (first
      | (go_at_call 9; refine (CM _ bwA).mono ?_; clear CM; rintro e wB ⟨rfl, bB⟩; have bwB := bwA.trans (bB.mono bwA.size); have XB := (bB.block _ (lt_of_block XA)).trans XA; have YB := (bB.block _ (lt_of_block YA)).trans YA; have RB := (bB.block _ (lt_of_block RA)).trans RA; have p0 := blk_cell XB 0 rfl; have q0 := blk_cell YB 0 rfl; have p1 := blk_cell XB 1 rfl; have q1 := blk_cell YB 1 rfl; have p2 := blk_cell XB 2 rfl; have q2 := blk_cell YB 2 rfl; have p3 := blk_cell XB 3 rfl; have q3 := blk_cell YB 3 rfl; have p4 := blk_cell XB 4 rfl; have q4 := blk_cell YB 4 rfl; have p5 := blk_cell XB 5 rfl; have q5 := blk_cell YB 5 rfl; have p6 := blk_cell XB 6 rfl; have q6 := blk_cell YB 6 rfl; have p7 := blk_cell XB 7 rfl; have q7 := blk_cell YB 7 rfl; have p8 := blk_cell XB 8 rfl; have q8 := blk_cell YB 8 rfl; have p9 := blk_cell XB 9 rfl; have q9 := blk_cell YB 9 rfl; have p10 := blk_cell XB 10 rfl; have q10 := blk_cell YB 10 rfl; have p11 := blk_cell XB 11 rfl; have q11 := blk_cell YB 11 rfl; have p12 := blk_cell XB 12 rfl; have q12 := blk_cell YB 12 rfl)
      | (go_at_call 27; refine (CLb _ bwB).mono ?_; clear CLb; rintro e wC ⟨r, rfl, SC, bC⟩; have bwC := bwB.trans (bC.mono bwB.size); have RC := (bC.block _ (lt_of_block RB)).trans RB; have o0 := blk_cell RC 0 rfl; have f0 := blk_free RC 0; have o1 := blk_cell RC 1 rfl; have f1 := blk_free RC 1; have o2 := blk_cell RC 2 rfl; have f2 := blk_free RC 2; have o3 := blk_cell RC 3 rfl; have f3 := blk_free RC 3; have o4 := blk_cell RC 4 rfl; have f4 := blk_free RC 4; have o5 := blk_cell RC 5 rfl; have f5 := blk_free RC 5; have o6 := blk_cell RC 6 rfl; have f6 := blk_free RC 6; have o7 := blk_cell RC 7 rfl; have f7 := blk_free RC 7; have o8 := blk_cell RC 8 rfl; have f8 := blk_free RC 8; have o9 := blk_cell RC 9 rfl; have f9 := blk_free RC 9; have o10 := blk_cell RC 10 rfl; have f10 := blk_free RC 10; have o11 := blk_cell RC 11 rfl; have f11 := blk_free RC 11; have o12 := blk_cell RC 12 rfl; have f12 := blk_free RC 12))
    (try simp only [Exit.inBlock, Exit.then])
    rw [set13_eq wC (w.heap.size + 1 + 1) 33 _ _ _ _ _ _ _ _ _ _ _ _ _ _ _ _ _ _ _ _ _ _ _ _ _ _ RC]
    have hrow := setRow_heap wC (w.heap.size + 1 + 1) _ #[.int .u64 b.hi, .int .u64 b.lo, .int .u64 b.id, .int .u64 b.par, .slice r.la b.links.length r.lc, .string b.svc, .string b.op, .int .i64 b.kind, .int .i64 b.status, .int .i64 b.start, .int .i64 b.fin, .slice r.aa b.attrs.length r.ac, .slice r.ea b.events.length r.ec] 33 (0, 0) RC
    have hld := run_loadVar_row (P := Tryd.prog) (wC.setRow (w.heap.size + 1 + 1) #[.int .u64 b.hi, .int .u64 b.lo, .int .u64 b.id, .int .u64 b.par, .slice r.la b.links.length r.lc, .string b.svc, .string b.op, .int .i64 b.kind, .int .i64 b.status, .int .i64 b.start, .int .i64 b.fin, .slice r.aa b.attrs.length r.ac, .slice r.ea b.events.length r.ec]) (w.heap.size + 1 + 1) 33 33 #[.int .u64 b.hi, .int .u64 b.lo, .int .u64 b.id, .int .u64 b.par, .slice r.la b.links.length r.lc, .string b.svc, .string b.op, .int .i64 b.kind, .int .i64 b.status, .int .i64 b.start, .int .i64 b.fin, .slice r.aa b.attrs.length r.ac, .slice r.ea b.events.length r.ec] (0, 0) _ hrow Tryd.underlying33 rfl Tryd.info33
    refine bodyPost_ret (v := .tuple #[.agg #[.int .u64 b.hi, .int .u64 b.lo, .int .u64 b.id, .int .u64 b.par, .slice r.la b.links.length r.lc, .string b.svc, .string b.op, .int .i64 b.kind, .int .i64 b.status, .int .i64 b.start, .int .i64 b.fin, .slice r.aa b.attrs.length r.ac, .slice r.ea b.events.length r.ec], .int .i64 0]) ?_ rfl ⟨r, rfl, ?_, below_setRow bwC (by omega) _⟩
    · rw [results_cell_tmp rfl]
      simp [asAddr, Result.andThen, hld]
    · exact SC _ (fun k hk hk' => setRow_other wC _ k _ (by have := bwB.size; have := lt_of_block RB; omega))
  · simp only [hlt, if_false]
    clear CLb
    go_enter Tryd.func14, Tryd.ntmps14
    go_wp2
    go_region_held3 (fun w' => w'.cell? ⟨w.heap.size, 0, none⟩ = some (.int .u64 a.hi) ∧ w'.cell? ⟨w.heap.size, 1, none⟩ = some (.int .u64 a.lo) ∧ w'.cell? ⟨w.heap.size, 2, none⟩ = some (.int .u64 a.id) ∧ w'.cell? ⟨w.heap.size, 3, none⟩ = some (.int .u64 a.par) ∧ w'.cell? ⟨w.heap.size, 4, none⟩ = some (.slice p.la a.links.length p.lc) ∧ w'.cell? ⟨w.heap.size, 5, none⟩ = some (.string a.svc) ∧ w'.cell? ⟨w.heap.size, 6, none⟩ = some (.string a.op) ∧ w'.cell? ⟨w.heap.size, 7, none⟩ = some (.int .i64 a.kind) ∧ w'.cell? ⟨w.heap.size, 8, none⟩ = some (.int .i64 a.status) ∧ w'.cell? ⟨w.heap.size, 9, none⟩ = some (.int .i64 a.start) ∧ w'.cell? ⟨w.heap.size, 10, none⟩ = some (.int .i64 a.fin) ∧ w'.cell? ⟨w.heap.size, 11, none⟩ = some (.slice p.aa a.attrs.length p.ac) ∧ w'.cell? ⟨w.heap.size, 12, none⟩ = some (.slice p.ea a.events.length p.ec) ∧ w'.cell? ⟨w.heap.size + 1, 0, none⟩ = some (.int .u64 b.hi) ∧ w'.cell? ⟨w.heap.size + 1, 1, none⟩ = some (.int .u64 b.lo) ∧ w'.cell? ⟨w.heap.size + 1, 2, none⟩ = some (.int .u64 b.id) ∧ w'.cell? ⟨w.heap.size + 1, 3, none⟩ = some (.int .u64 b.par) ∧ w'.cell? ⟨w.heap.size + 1, 4, none⟩ = some (.slice q.la b.links.length q.lc) ∧ w'.cell? ⟨w.heap.size + 1, 5, none⟩ = some (.string b.svc) ∧ w'.cell? ⟨w.heap.size + 1, 6, none⟩ = some (.string b.op) ∧ w'.cell? ⟨w.heap.size + 1, 7, none⟩ = some (.int .i64 b.kind) ∧ w'.cell? ⟨w.heap.size + 1, 8, none⟩ = some (.int .i64 b.status) ∧ w'.cell? ⟨w.heap.size + 1, 9, none⟩ = some (.int .i64 b.start) ∧ w'.cell? ⟨w.heap.size + 1, 10, none⟩ = some (.int .i64 b.fin) ∧ w'.cell? ⟨w.heap.size + 1, 11, none⟩ = some (.slice q.aa b.attrs.length q.ac) ∧ w'.cell? ⟨w.heap.size + 1, 12, none⟩ = some (.slice q.ea b.events.length q.ec)) (simp [go_sem, World.cell?_alloc_past])
      (first
        | (go_at_call 25; refine (NA _).mono ?_; clear NA; rintro e w' ⟨rfl, rfl⟩)
        | (go_at_call 25; refine (NB _).mono ?_; clear NB; rintro e w' ⟨rfl, rfl⟩))
    go_wp2
    have b7 := B7 (.cells #[.int .u64 a.hi, .int .u64 a.lo, .int .u64 a.id, .int .u64 a.par, .slice p.la a.links.length p.lc, .string a.svc, .string a.op, .int .i64 a.kind, .int .i64 a.status, .int .i64 a.start, .int .i64 a.fin, .slice p.aa a.attrs.length p.ac, .slice p.ea a.events.length p.ec] 33) (.cells #[.int .u64 b.hi, .int .u64 b.lo, .int .u64 b.id, .int .u64 b.par, .slice q.la b.links.length q.lc, .string b.svc, .string b.op, .int .i64 b.kind, .int .i64 b.status, .int .i64 b.start, .int .i64 b.fin, .slice q.aa b.attrs.length q.ac, .slice q.ea b.events.length q.ec] 33) (.cells #[.int .u64 0, .int .u64 0, .int .u64 0, .int .u64 0, .slice none 0 0, .string ⟨#[]⟩, .string ⟨#[]⟩, .int .i64 0, .int .i64 0, .int .i64 0, .int .i64 0, .slice none 0 0, .slice none 0 0] 33) (.cells #[.int .u64 a.hi, .int .u64 a.lo, .int .u64 a.id, .int .u64 a.par, .slice p.la a.links.length p.lc, .string a.svc, .string a.op, .int .i64 a.kind, .int .i64 a.status, .int .i64 a.start, .int .i64 a.fin, .slice p.aa a.attrs.length p.ac, .slice p.ea a.events.length p.ec] 33) (.cells #[.int .u64 a.hi, .int .u64 a.lo, .int .u64 a.id] 53) (.cells #[.int .u64 b.hi, .int .u64 b.lo, .int .u64 b.id, .int .u64 b.par, .slice q.la b.links.length q.lc, .string b.svc, .string b.op, .int .i64 b.kind, .int .i64 b.status, .int .i64 b.start, .int .i64 b.fin, .slice q.aa b.attrs.length q.ac, .slice q.ea b.events.length q.ec] 33) (.cells #[.int .u64 b.hi, .int .u64 b.lo, .int .u64 b.id] 53)
    have bb7 := BB (.cells #[.int .u64 a.hi, .int .u64 a.lo, .int .u64 a.id, .int .u64 a.par, .slice p.la a.links.length p.lc, .string a.svc, .string a.op, .int .i64 a.kind, .int .i64 a.status, .int .i64 a.start, .int .i64 a.fin, .slice p.aa a.attrs.length p.ac, .slice p.ea a.events.length p.ec] 33) (.cells #[.int .u64 b.hi, .int .u64 b.lo, .int .u64 b.id, .int .u64 b.par, .slice q.la b.links.length q.lc, .string b.svc, .string b.op, .int .i64 b.kind, .int .i64 b.status, .int .i64 b.start, .int .i64 b.fin, .slice q.aa b.attrs.length q.ac, .slice q.ea b.events.length q.ec] 33) (.cells #[.int .u64 0, .int .u64 0, .int .u64 0, .int .u64 0, .slice none 0 0, .string ⟨#[]⟩, .string ⟨#[]⟩, .int .i64 0, .int .i64 0, .int .i64 0, .int .i64 0, .slice none 0 0, .slice none 0 0] 33) (.cells #[.int .u64 a.hi, .int .u64 a.lo, .int .u64 a.id, .int .u64 a.par, .slice p.la a.links.length p.lc, .string a.svc, .string a.op, .int .i64 a.kind, .int .i64 a.status, .int .i64 a.start, .int .i64 a.fin, .slice p.aa a.attrs.length p.ac, .slice p.ea a.events.length p.ec] 33) (.cells #[.int .u64 a.hi, .int .u64 a.lo, .int .u64 a.id] 53) (.cells #[.int .u64 b.hi, .int .u64 b.lo, .int .u64 b.id, .int .u64 b.par, .slice q.la b.links.length q.lc, .string b.svc, .string b.op, .int .i64 b.kind, .int .i64 b.status, .int .i64 b.start, .int .i64 b.fin, .slice q.aa b.attrs.length q.ac, .slice q.ea b.events.length q.ec] 33) (.cells #[.int .u64 b.hi, .int .u64 b.lo, .int .u64 b.id] 53)
    have X7 := (bb7.block w.heap.size (by omega)).trans X3
    have Y7 := (bb7.block (w.heap.size + 1) (by omega)).trans Y3
    have R7 := (bb7.block (w.heap.size + 1 + 1) (by omega)).trans R3
    have z7 := bb7.size
    simp only [World.size_alloc'] at z7
    generalize (((((((w.alloc (.cells #[.int .u64 a.hi, .int .u64 a.lo, .int .u64 a.id, .int .u64 a.par, .slice p.la a.links.length p.lc, .string a.svc, .string a.op, .int .i64 a.kind, .int .i64 a.status, .int .i64 a.start, .int .i64 a.fin, .slice p.aa a.attrs.length p.ac, .slice p.ea a.events.length p.ec] 33)).alloc (.cells #[.int .u64 b.hi, .int .u64 b.lo, .int .u64 b.id, .int .u64 b.par, .slice q.la b.links.length q.lc, .string b.svc, .string b.op, .int .i64 b.kind, .int .i64 b.status, .int .i64 b.start, .int .i64 b.fin, .slice q.aa b.attrs.length q.ac, .slice q.ea b.events.length q.ec] 33)).alloc (.cells #[.int .u64 0, .int .u64 0, .int .u64 0, .int .u64 0, .slice none 0 0, .string ⟨#[]⟩, .string ⟨#[]⟩, .int .i64 0, .int .i64 0, .int .i64 0, .int .i64 0, .slice none 0 0, .slice none 0 0] 33)).alloc (.cells #[.int .u64 a.hi, .int .u64 a.lo, .int .u64 a.id, .int .u64 a.par, .slice p.la a.links.length p.lc, .string a.svc, .string a.op, .int .i64 a.kind, .int .i64 a.status, .int .i64 a.start, .int .i64 a.fin, .slice p.aa a.attrs.length p.ac, .slice p.ea a.events.length p.ec] 33)).alloc (.cells #[.int .u64 a.hi, .int .u64 a.lo, .int .u64 a.id] 53)).alloc (.cells #[.int .u64 b.hi, .int .u64 b.lo, .int .u64 b.id, .int .u64 b.par, .slice q.la b.links.length q.lc, .string b.svc, .string b.op, .int .i64 b.kind, .int .i64 b.status, .int .i64 b.start, .int .i64 b.fin, .slice q.aa b.attrs.length q.ac, .slice q.ea b.events.length q.ec] 33)).alloc (.cells #[.int .u64 b.hi, .int .u64 b.lo, .int .u64 b.id] 53)).drew = w7 at b7 X7 Y7 R7 z7 bb7 ⊢
    clear B7 BB bb7 X3 Y3 R3 hq hg
    have S7 := C26 w7 X7 Y7
    go_region_held3 (fun w' => w'.cell? ⟨w.heap.size, 0, none⟩ = some (.int .u64 a.hi) ∧ w'.cell? ⟨w.heap.size, 1, none⟩ = some (.int .u64 a.lo) ∧ w'.cell? ⟨w.heap.size, 2, none⟩ = some (.int .u64 a.id) ∧ w'.cell? ⟨w.heap.size, 3, none⟩ = some (.int .u64 a.par) ∧ w'.cell? ⟨w.heap.size, 4, none⟩ = some (.slice p.la a.links.length p.lc) ∧ w'.cell? ⟨w.heap.size, 5, none⟩ = some (.string a.svc) ∧ w'.cell? ⟨w.heap.size, 6, none⟩ = some (.string a.op) ∧ w'.cell? ⟨w.heap.size, 7, none⟩ = some (.int .i64 a.kind) ∧ w'.cell? ⟨w.heap.size, 8, none⟩ = some (.int .i64 a.status) ∧ w'.cell? ⟨w.heap.size, 9, none⟩ = some (.int .i64 a.start) ∧ w'.cell? ⟨w.heap.size, 10, none⟩ = some (.int .i64 a.fin) ∧ w'.cell? ⟨w.heap.size, 11, none⟩ = some (.slice p.aa a.attrs.length p.ac) ∧ w'.cell? ⟨w.heap.size, 12, none⟩ = some (.slice p.ea a.events.length p.ec) ∧ w'.cell? ⟨w.heap.size + 1, 0, none⟩ = some (.int .u64 b.hi) ∧ w'.cell? ⟨w.heap.size + 1, 1, none⟩ = some (.int .u64 b.lo) ∧ w'.cell? ⟨w.heap.size + 1, 2, none⟩ = some (.int .u64 b.id) ∧ w'.cell? ⟨w.heap.size + 1, 3, none⟩ = some (.int .u64 b.par) ∧ w'.cell? ⟨w.heap.size + 1, 4, none⟩ = some (.slice q.la b.links.length q.lc) ∧ w'.cell? ⟨w.heap.size + 1, 5, none⟩ = some (.string b.svc) ∧ w'.cell? ⟨w.heap.size + 1, 6, none⟩ = some (.string b.op) ∧ w'.cell? ⟨w.heap.size + 1, 7, none⟩ = some (.int .i64 b.kind) ∧ w'.cell? ⟨w.heap.size + 1, 8, none⟩ = some (.int .i64 b.status) ∧ w'.cell? ⟨w.heap.size + 1, 9, none⟩ = some (.int .i64 b.start) ∧ w'.cell? ⟨w.heap.size + 1, 10, none⟩ = some (.int .i64 b.fin) ∧ w'.cell? ⟨w.heap.size + 1, 11, none⟩ = some (.slice q.aa b.attrs.length q.ac) ∧ w'.cell? ⟨w.heap.size + 1, 12, none⟩ = some (.slice q.ea b.events.length q.ec)) (first | exact S7 | exact S8 | exact S9 | exact S10 _)
      (first
        | (go_at_call 13; refine (CA _ b7.drew).mono ?_; clear CA; rintro e w8 ⟨rfl, b8⟩; have X8 := (b8.block _ (lt_of_block X7)).trans X7; have Y8 := (b8.block _ (lt_of_block Y7)).trans Y7; have R8 := (b8.block _ (lt_of_block R7)).trans R7; have S8 := C26 w8 X8 Y8; have bw8 := b7.drew.trans (b8.mono b7.drew.size); clear S7)
        | (go_at_call 13; refine (CB _ bw8).mono ?_; clear CB; rintro e w9 ⟨rfl, b9⟩; have X9 := (b9.block _ (lt_of_block X8)).trans X8; have Y9 := (b9.block _ (lt_of_block Y8)).trans Y8; have R9 := (b9.block _ (lt_of_block R8)).trans R8; have S9 := C26 w9 X9 Y9; have bw9 := bw8.trans (b9.mono bw8.size); have S10 := fun o => C26 (w9.alloc o) ((Below.heap_alloc w9 o _ (lt_of_block X9)).trans X9) ((Below.heap_alloc w9 o _ (lt_of_block Y9)).trans Y9); clear S8)
        | (go_at_call 26; refine (OR _ _ rfl).mono ?_; rintro e w' ⟨rfl, rfl⟩))
    have bwA := bw9.alloc bw9.size (.cells #[.int .i64 (chkS a), .int .i64 (chkS b)] 38)
    have XA := (Below.heap_alloc w9 (.cells #[.int .i64 (chkS a), .int .i64 (chkS b)] 38) _ (lt_of_block X9)).trans X9
    have YA := (Below.heap_alloc w9 (.cells #[.int .i64 (chkS a), .int .i64 (chkS b)] 38) _ (lt_of_block Y9)).trans Y9
    have RA := (Below.heap_alloc w9 (.cells #[.int .i64 (chkS a), .int .i64 (chkS b)] 38) _ (lt_of_block R9)).trans R9
    generalize w9.alloc (.cells #[.int .i64 (chkS a), .int .i64 (chkS b)] 38) = wA at bwA XA YA RA ⊢
    clear S9 S10 X9 Y9 R9 X8 Y8 R8 X7 Y7 R7
    have g0 := blk_cell XA 0 rfl
    have h0 := blk_cell YA 0 rfl
    have g1 := blk_cell XA 1 rfl
    have h1 := blk_cell YA 1 rfl
    have g2 := blk_cell XA 2 rfl
    have h2 := blk_cell YA 2 rfl
    have g3 := blk_cell XA 3 rfl
    have h3 := blk_cell YA 3 rfl
    have g4 := blk_cell XA 4 rfl
    have h4 := blk_cell YA 4 rfl
    have g5 := blk_cell XA 5 rfl
    have h5 := blk_cell YA 5 rfl
    have g6 := blk_cell XA 6 rfl
    have h6 := blk_cell YA 6 rfl
    have g7 := blk_cell XA 7 rfl
    have h7 := blk_cell YA 7 rfl
    have g8 := blk_cell XA 8 rfl
    have h8 := blk_cell YA 8 rfl
    have g9 := blk_cell XA 9 rfl
    have h9 := blk_cell YA 9 rfl
    have g10 := blk_cell XA 10 rfl
    have h10 := blk_cell YA 10 rfl
    have g11 := blk_cell XA 11 rfl
    have h11 := blk_cell YA 11 rfl
    have g12 := blk_cell XA 12 rfl
    have h12 := blk_cell YA 12 rfl
    go_wp2_with (first
      | (go_at_call 9; refine (CM _ bwA).mono ?_; clear CM; rintro e wB ⟨rfl, bB⟩; have bwB := bwA.trans (bB.mono bwA.size); have XB := (bB.block _ (lt_of_block XA)).trans XA; have YB := (bB.block _ (lt_of_block YA)).trans YA; have RB := (bB.block _ (lt_of_block RA)).trans RA; have p0 := blk_cell XB 0 rfl; have q0 := blk_cell YB 0 rfl; have p1 := blk_cell XB 1 rfl; have q1 := blk_cell YB 1 rfl; have p2 := blk_cell XB 2 rfl; have q2 := blk_cell YB 2 rfl; have p3 := blk_cell XB 3 rfl; have q3 := blk_cell YB 3 rfl; have p4 := blk_cell XB 4 rfl; have q4 := blk_cell YB 4 rfl; have p5 := blk_cell XB 5 rfl; have q5 := blk_cell YB 5 rfl; have p6 := blk_cell XB 6 rfl; have q6 := blk_cell YB 6 rfl; have p7 := blk_cell XB 7 rfl; have q7 := blk_cell YB 7 rfl; have p8 := blk_cell XB 8 rfl; have q8 := blk_cell YB 8 rfl; have p9 := blk_cell XB 9 rfl; have q9 := blk_cell YB 9 rfl; have p10 := blk_cell XB 10 rfl; have q10 := blk_cell YB 10 rfl; have p11 := blk_cell XB 11 rfl; have q11 := blk_cell YB 11 rfl; have p12 := blk_cell XB 12 rfl; have q12 := blk_cell YB 12 rfl)
      | (go_at_call 27; refine (CLa _ bwB).mono ?_; clear CLa; rintro e wC ⟨r, rfl, SC, bC⟩; have bwC := bwB.trans (bC.mono bwB.size); have RC := (bC.block _ (lt_of_block RB)).trans RB; have o0 := blk_cell RC 0 rfl; have f0 := blk_free RC 0; have o1 := blk_cell RC 1 rfl; have f1 := blk_free RC 1; have o2 := blk_cell RC 2 rfl; have f2 := blk_free RC 2; have o3 := blk_cell RC 3 rfl; have f3 := blk_free RC 3; have o4 := blk_cell RC 4 rfl; have f4 := blk_free RC 4; have o5 := blk_cell RC 5 rfl; have f5 := blk_free RC 5; have o6 := blk_cell RC 6 rfl; have f6 := blk_free RC 6; have o7 := blk_cell RC 7 rfl; have f7 := blk_free RC 7; have o8 := blk_cell RC 8 rfl; have f8 := blk_free RC 8; have o9 := blk_cell RC 9 rfl; have f9 := blk_free RC 9; have o10 := blk_cell RC 10 rfl; have f10 := blk_free RC 10; have o11 := blk_cell RC 11 rfl; have f11 := blk_free RC 11; have o12 := blk_cell RC 12 rfl; have f12 := blk_free RC 12))
    (try simp only [Exit.inBlock, Exit.then])
    rw [set13_eq wC (w.heap.size + 1 + 1) 33 _ _ _ _ _ _ _ _ _ _ _ _ _ _ _ _ _ _ _ _ _ _ _ _ _ _ RC]
    have hrow := setRow_heap wC (w.heap.size + 1 + 1) _ #[.int .u64 a.hi, .int .u64 a.lo, .int .u64 a.id, .int .u64 a.par, .slice r.la a.links.length r.lc, .string a.svc, .string a.op, .int .i64 a.kind, .int .i64 a.status, .int .i64 a.start, .int .i64 a.fin, .slice r.aa a.attrs.length r.ac, .slice r.ea a.events.length r.ec] 33 (0, 0) RC
    have hld := run_loadVar_row (P := Tryd.prog) (wC.setRow (w.heap.size + 1 + 1) #[.int .u64 a.hi, .int .u64 a.lo, .int .u64 a.id, .int .u64 a.par, .slice r.la a.links.length r.lc, .string a.svc, .string a.op, .int .i64 a.kind, .int .i64 a.status, .int .i64 a.start, .int .i64 a.fin, .slice r.aa a.attrs.length r.ac, .slice r.ea a.events.length r.ec]) (w.heap.size + 1 + 1) 33 33 #[.int .u64 a.hi, .int .u64 a.lo, .int .u64 a.id, .int .u64 a.par, .slice r.la a.links.length r.lc, .string a.svc, .string a.op, .int .i64 a.kind, .int .i64 a.status, .int .i64 a.start, .int .i64 a.fin, .slice r.aa a.attrs.length r.ac, .slice r.ea a.events.length r.ec] (0, 0) _ hrow Tryd.underlying33 rfl Tryd.info33
    refine bodyPost_ret (v := .tuple #[.agg #[.int .u64 a.hi, .int .u64 a.lo, .int .u64 a.id, .int .u64 a.par, .slice r.la a.links.length r.lc, .string a.svc, .string a.op, .int .i64 a.kind, .int .i64 a.status, .int .i64 a.start, .int .i64 a.fin, .slice r.aa a.attrs.length r.ac, .slice r.ea a.events.length r.ec], .int .i64 0]) ?_ rfl ⟨r, rfl, ?_, below_setRow bwC (by omega) _⟩
    · rw [results_cell_tmp rfl]
      simp [asAddr, Result.andThen, hld]
    · exact SC _ (fun k hk hk' => setRow_other wC _ k _ (by have := bwB.size; have := lt_of_block RB; omega))
end Go.Proofs.YtioibllopidilaaDoor
