/-
  Merged: KA, KB, KD.
-/
import Derived.Test.YthajamokaabogaaGreatDoorTQq
import Derived.Test.YthajamokaabogaaGreatDoorFSq
import Derived.Test.YthajamokaabogaaGreatDoorWaq
import Derived.Test.YthajamokaabogaaGreatDoorFXq
import Derived.Test.YthajamokaabogaaGreatDoorOXq
import Derived.Test.YthajamokaabogaaGreatDoorOZ
namespace Go.Proofs.YthajamokaabogaaGreatDoor
open Go Go.RowKit
set_option maxRecDepth 100000

/-- The order of latest: who ends later comes first, then the lesser ID. -/
def cmpEnd (a b : Nod) : Int := orL [cmpI b.til a.til, cmpI a.id b.id]
theorem grown2 (W : World) (o1 o2 o3 : Obj) (m : Nat) : Below W.heap.size W ((((W.alloc o1).alloc o2).alloc o3).drewN m) := below_drewN ((((Below.refl _ _).alloc (Nat.le_refl _) _).alloc (by simp) _).alloc (by simp; omega) _) m
set_option maxHeartbeats 4000000 in
theorem cmpEnd_any (x y : Nod) (w : World) :
    Calls Tryz.prog 61 #[ndV x, ndV y] w fun e w' => e = .returned (.int .i64 (cmpEnd x y)) ∧ Below w.heap.size w w' := by
  have OR := fun (o1 o2 : Obj) => or_at ((w.alloc o1).alloc o2) (w.heap.size + 1 + 1) [cmpI y.til x.til, cmpI x.id y.id] (by simp) (by simp)
  simp only [List.map, List.length, Nat.reduceAdd] at OR
  have HG : Hid (∀ o1 o2 o3, Below w.heap.size w ((((w.alloc o1).alloc o2).alloc o3).drewN 1)) := fun o1 o2 o3 => grown2 w o1 o2 o3 1
  unfold cmpEnd ndV
  go_enter Tryz.func61, Tryz.ntmps61
  go_wp2
  go_region_held3 (fun W => W.cell? ⟨w.heap.size, 6, none⟩ = some (.int .i64 x.til) ∧ W.cell? ⟨w.heap.size, 0, none⟩ = some (.int .u64 x.id) ∧ W.cell? ⟨w.heap.size + 1, 6, none⟩ = some (.int .i64 y.til) ∧ W.cell? ⟨w.heap.size + 1, 0, none⟩ = some (.int .u64 y.id)) (simp [go_sem, World.cell?_alloc_past])
    (first
      | (go_at_call 63; refine (cmp_i64 _ _ _).mono ?_; rintro e w' ⟨rfl, rfl⟩)
      | (go_at_call 40; refine (cmp_id _ _ _).mono ?_; rintro e w' ⟨rfl, rfl⟩)
      | (go_at_call 62; (with_reducible refine (OR _ _).mono ?_); rintro e w' ⟨rfl, rfl⟩))
  go_wp2
  go_ret
  exact ⟨rfl, HG.out _ _ _⟩
theorem cmpEnd_lt (x y : Nod) : cmpEnd x y < 0 ↔ y.til < x.til ∨ (y.til = x.til ∧ x.id < y.id) := by
  unfold cmpEnd
  simp only [orL, orI, cmpI]
  repeat' split
  all_goals omega
/-- None of the first k is ahead of it. -/
def MinI (V : List Nod) (k : Nat) (d : Nod) : Prop := d ∈ V.take k ∧ ∀ x ∈ V.take k, ¬ cmpEnd x d < 0
theorem MinI.keep {V : List Nod} {k : Nat} {d : Nod} (h : MinI V k d) (hk : k < V.length) (hc : ¬ cmpEnd V[k] d < 0) : MinI V (k + 1) d := by
  have e : V.take (k + 1) = V.take k ++ [V[k]] := by rw [List.take_add_one, List.getElem?_eq_getElem hk]; rfl
  refine ⟨by rw [e]; exact List.mem_append_left _ h.1, fun x hx => ?_⟩
  rw [e, List.mem_append] at hx
  rcases hx with hx | hx
  · exact h.2 x hx
  · simp at hx
    subst hx
    exact hc
theorem MinI.take {V : List Nod} {k : Nat} {d : Nod} (h : MinI V k d) (hk : k < V.length) (hc : cmpEnd V[k] d < 0) : MinI V (k + 1) V[k] := by
  have e : V.take (k + 1) = V.take k ++ [V[k]] := by rw [List.take_add_one, List.getElem?_eq_getElem hk]; rfl
  refine ⟨by rw [e]; exact List.mem_append_right _ (List.mem_singleton.2 rfl), fun x hx => ?_⟩
  rw [e, List.mem_append] at hx
  rw [cmpEnd_lt] at hc
  rcases hx with hx | hx
  · have := h.2 x hx
    rw [cmpEnd_lt] at this ⊢
    omega
  · simp at hx
    subst hx
    rw [cmpEnd_lt]
    omega
/-- Midway in MinFunc. -/
def MidM (w : World) (V : List Nod) (k : Nat) (d : Nod) (wr : World) : Prop := MinI V k d ∧ Blk wr (w.heap.size + 1) (ndL d).toArray 73 ∧ Blk wr w.heap.size (ndL zNd).toArray 73 ∧ Below w.heap.size w wr
set_option maxHeartbeats 4000000 in
theorem minE_any (g cap : Nat) (V : List Nod) (w : World) (h : RwG ndL 7 73 w g cap V) (h0 : 0 < V.length) (hl : V.length ≤ 1000000) :
    Calls Tryz.prog 60 #[.slice (some ⟨g, 0, none⟩) V.length cap, .func (.func 61) #[] #[]] w fun e w' => ∃ d, e = .returned (ndV d) ∧ d ∈ V ∧ (∀ x ∈ V, ¬ cmpEnd x d < 0) ∧ Below w.heap.size w w' := by
  have HR : Hid (RwG ndL 7 73 w g cap V) := h
  obtain ⟨n, hn⟩ : ∃ n, V.length = n := ⟨_, rfl⟩
  have HN : Hid (V.length = n) := hn
  have H0 : Hid (∀ W, Below w.heap.size w W → W.rangeAt g 0 (ndL (V[0]'h0))) := fun W hb => by have := (h.below hb).range ndL_len 0 h0; rwa [Nat.zero_mul] at this
  have HM1 : Hid (MinI V 1 (V[0]'h0)) := by
    have e : V.take 1 = [V[0]'h0] := by rw [show (1 : Nat) = 0 + 1 from rfl, List.take_add_one, List.getElem?_eq_getElem h0]; rfl
    show MinI V 1 (V[0]'h0)
    unfold MinI
    rw [e]
    exact ⟨by simp, fun x hx => by simp at hx; subst hx; rw [cmpEnd_lt]; omega⟩
  generalize V[0]'h0 = d0 at *
  rw [hn] at h0 hl ⊢
  clear h hn
  have hn1 : ¬ (n : Int) < 1 := by omega
  have hn0 : (0 : Int) < (n : Int) := by omega
  have B2 : Hid (Below w.heap.size w ((w.alloc (.cells (ndL zNd).toArray 73)).alloc (.cells (ndL zNd).toArray 73))) := ((Below.refl _ _).alloc (Nat.le_refl _) _).alloc (by simp) _
  go_enter Tryz.func60, Tryz.ntmps60
  go_wp2_with (first
    | (refine wpList_load_mid rfl 73 _ rfl g 0 rfl (ndL d0) _ (H0.out _ B2.out) Tryz.underlying73 rfl (by kernel_rfl) ?_)
    | (refine wpList_load_mid rfl 73 _ rfl g 0 rfl (ndL d0) _ (H0.out _ ((Below.refl _ _).alloc (Nat.le_refl _) _)) Tryz.underlying73 rfl (by kernel_rfl) ?_)
    | (refine wpList_stW rfl 73 _ _ rfl (w.heap.size + 1) (ndL zNd) (ndL d0) 73 (by have := Blk.new (w.alloc (.cells (ndL zNd).toArray 73)) (ndL zNd).toArray 73; rwa [World.size_alloc] at this) rfl rfl rfl (by kernel_rfl) (ndL_one d0) ?_; intro w4 n4 u4; have HM4 : Hid (MidM w V 1 d0 w4) := ⟨HM1.out, n4, Blk.upd (Blk.alloc (Blk.new w (ndL zNd).toArray 73) _) u4 (by omega), B2.out.trans (u4.below B2.out.size (fun j hj e => by omega))⟩; clear n4 u4))
  go_loopw [6] (fun z6 wr => ∃ (k : Nat) (d : Nod), z6 = .int .i64 k ∧ k ≤ n ∧ 1 ≤ k ∧ Hid (MidM w V k d wr)) (fun z6 _ => n - (intOf z6).toNat)
  case atStart => exact ⟨1, d0, rfl, by omega, by omega, HM4⟩
  case round =>
    obtain ⟨k, d, rfl, hk, hk1, HM⟩ := hrel
    by_cases hlt : k < n
    · have hlt' : (k : Int) < (n : Int) := by omega
      have hkV : k < V.length := by rw [HN.out]; exact hlt
      have RG : Hid (wr.rangeAt g (k * 7) (ndL V[k])) := (HR.out.below HM.out.2.2.2).range ndL_len k hkV
      have RD : Hid (wr.rangeAt (w.heap.size + 1) 0 (ndL d)) := fun j v hv => by rw [Nat.zero_add]; exact HM.out.2.1.cell j (by rw [List.getElem?_toArray]; exact hv)
      have CM := fun W => cmpEnd_any V[k] d W
      have HBr : Hid (Below w.heap.size w wr) := HM.out.2.2.2
      by_cases hc : cmpEnd V[k] d < 0
      · have FN : Hid (∀ w8 w9, Below wr.heap.size wr w8 → Blk w9 (w.heap.size + 1) (ndL V[k]).toArray 73 → Upd (fun q => q = w.heap.size + 1) w8 w9 → MidM w V (k + 1) V[k] w9) := fun w8 w9 b n9 u9 => ⟨HM.out.1.take hkV hc, n9, Blk.upd (HM.out.2.2.1.below b HM.out.2.2.1.lt) u9 (by omega), (HM.out.2.2.2.trans (b.mono HM.out.2.2.2.size)).trans (u9.below (Nat.le_trans HM.out.2.2.2.size b.size) (fun j hj e => by omega))⟩
        have RW : Hid (∀ W, Below wr.heap.size wr W → W.rangeAt g (k * 7) (ndL V[k]) ∧ Blk W (w.heap.size + 1) (ndL d).toArray 73) := fun W hb => ⟨((HR.out.below HM.out.2.2.2).below hb).range ndL_len k hkV, HM.out.2.1.below hb HM.out.2.1.lt⟩
        clear HM
        generalize V[k] = y at *
        generalize cmpEnd y d = cc at *
        unfold ndV at CM
        have HS : ∀ W, Below wr.heap.size wr W → W.cell? ⟨g, k * 7, none⟩ = some (.int .u64 y.id) ∧ W.cell? ⟨g, k * 7 + 1, none⟩ = some (.int .u64 y.par) ∧ W.cell? ⟨g, k * 7 + 2, none⟩ = some (.int .i64 y.org) ∧ W.cell? ⟨g, k * 7 + 3, none⟩ = some (.int .u64 y.tree) ∧ W.cell? ⟨g, k * 7 + 4, none⟩ = some (.int .i64 y.dep) ∧ W.cell? ⟨g, k * 7 + 5, none⟩ = some (.int .i64 y.fr) ∧ W.cell? ⟨g, k * 7 + 6, none⟩ = some (.int .i64 y.til) ∧ W.cell? ⟨w.heap.size + 1, 0, none⟩ = some (.int .u64 d.id) ∧ W.cell? ⟨w.heap.size + 1, 1, none⟩ = some (.int .u64 d.par) ∧ W.cell? ⟨w.heap.size + 1, 2, none⟩ = some (.int .i64 d.org) ∧ W.cell? ⟨w.heap.size + 1, 3, none⟩ = some (.int .u64 d.tree) ∧ W.cell? ⟨w.heap.size + 1, 4, none⟩ = some (.int .i64 d.dep) ∧ W.cell? ⟨w.heap.size + 1, 5, none⟩ = some (.int .i64 d.fr) ∧ W.cell? ⟨w.heap.size + 1, 6, none⟩ = some (.int .i64 d.til) := fun W hb => ⟨(RW.out W hb).1 0 _ rfl, (RW.out W hb).1 1 _ rfl, (RW.out W hb).1 2 _ rfl, (RW.out W hb).1 3 _ rfl, (RW.out W hb).1 4 _ rfl, (RW.out W hb).1 5 _ rfl, (RW.out W hb).1 6 _ rfl, (RW.out W hb).2.cell 0 rfl, (RW.out W hb).2.cell 1 rfl, (RW.out W hb).2.cell 2 rfl, (RW.out W hb).2.cell 3 rfl, (RW.out W hb).2.cell 4 rfl, (RW.out W hb).2.cell 5 rfl, (RW.out W hb).2.cell 6 rfl⟩
        have HSH : Hid (∀ W, Below wr.heap.size wr W → W.cell? ⟨g, k * 7, none⟩ = some (.int .u64 y.id) ∧ W.cell? ⟨g, k * 7 + 1, none⟩ = some (.int .u64 y.par) ∧ W.cell? ⟨g, k * 7 + 2, none⟩ = some (.int .i64 y.org) ∧ W.cell? ⟨g, k * 7 + 3, none⟩ = some (.int .u64 y.tree) ∧ W.cell? ⟨g, k * 7 + 4, none⟩ = some (.int .i64 y.dep) ∧ W.cell? ⟨g, k * 7 + 5, none⟩ = some (.int .i64 y.fr) ∧ W.cell? ⟨g, k * 7 + 6, none⟩ = some (.int .i64 y.til) ∧ W.cell? ⟨w.heap.size + 1, 0, none⟩ = some (.int .u64 d.id) ∧ W.cell? ⟨w.heap.size + 1, 1, none⟩ = some (.int .u64 d.par) ∧ W.cell? ⟨w.heap.size + 1, 2, none⟩ = some (.int .i64 d.org) ∧ W.cell? ⟨w.heap.size + 1, 3, none⟩ = some (.int .u64 d.tree) ∧ W.cell? ⟨w.heap.size + 1, 4, none⟩ = some (.int .i64 d.dep) ∧ W.cell? ⟨w.heap.size + 1, 5, none⟩ = some (.int .i64 d.fr) ∧ W.cell? ⟨w.heap.size + 1, 6, none⟩ = some (.int .i64 d.til)) := HS
        obtain ⟨p0, p1, p2, p3, p4, p5, p6, q0, q1, q2, q3, q4, q5, q6⟩ := HS wr (Below.refl _ _)
        clear HS
        go_wp2
        go_region_held3 (fun W => W.cell? ⟨g, k * 7, none⟩ = some (.int .u64 y.id) ∧ W.cell? ⟨g, k * 7 + 1, none⟩ = some (.int .u64 y.par) ∧ W.cell? ⟨g, k * 7 + 2, none⟩ = some (.int .i64 y.org) ∧ W.cell? ⟨g, k * 7 + 3, none⟩ = some (.int .u64 y.tree) ∧ W.cell? ⟨g, k * 7 + 4, none⟩ = some (.int .i64 y.dep) ∧ W.cell? ⟨g, k * 7 + 5, none⟩ = some (.int .i64 y.fr) ∧ W.cell? ⟨g, k * 7 + 6, none⟩ = some (.int .i64 y.til) ∧ W.cell? ⟨w.heap.size + 1, 0, none⟩ = some (.int .u64 d.id) ∧ W.cell? ⟨w.heap.size + 1, 1, none⟩ = some (.int .u64 d.par) ∧ W.cell? ⟨w.heap.size + 1, 2, none⟩ = some (.int .i64 d.org) ∧ W.cell? ⟨w.heap.size + 1, 3, none⟩ = some (.int .u64 d.tree) ∧ W.cell? ⟨w.heap.size + 1, 4, none⟩ = some (.int .i64 d.dep) ∧ W.cell? ⟨w.heap.size + 1, 5, none⟩ = some (.int .i64 d.fr) ∧ W.cell? ⟨w.heap.size + 1, 6, none⟩ = some (.int .i64 d.til)) (first | exact HS8 | simp [go_sem, p0, p1, p2, p3, p4, p5, p6, q0, q1, q2, q3, q4, q5, q6])
          (first
            | (go_at_call 61; refine (CM _).mono ?_; rintro e w8 ⟨rfl, b8⟩; have HB8 : Hid (Below wr.heap.size wr w8) := (Below.refl wr.heap.size wr).drew.trans b8; have HS8 := HSH.out w8 HB8.out; clear b8))
        go_wp2_with (first
          | (refine wpList_load_mid rfl 73 _ rfl g (k * 7) rfl (ndL y) _ (RW.out _ HB8.out).1 Tryz.underlying73 rfl (by kernel_rfl) ?_)
          | (refine wpList_stW rfl 73 _ _ rfl (w.heap.size + 1) (ndL d) (ndL y) 73 (RW.out _ HB8.out).2 rfl rfl rfl (by kernel_rfl) (ndL_one y) ?_; intro w9 n9 u9; have F9 : Hid (MidM w V (k + 1) y w9) := FN.out w8 w9 HB8.out n9 u9; clear n9 u9))
        go_roundw
        case rel => exact ⟨k + 1, y, by go_num, by omega, by omega, F9⟩
        case measure => simp [intOf]; omega
      · have FN : Hid (∀ w8, Below wr.heap.size wr w8 → MidM w V (k + 1) d w8) := fun w8 b => ⟨HM.out.1.keep hkV hc, HM.out.2.1.below b HM.out.2.1.lt, HM.out.2.2.1.below b HM.out.2.2.1.lt, HM.out.2.2.2.trans (b.mono HM.out.2.2.2.size)⟩
        have RW : Hid (∀ W, Below wr.heap.size wr W → W.rangeAt g (k * 7) (ndL V[k]) ∧ Blk W (w.heap.size + 1) (ndL d).toArray 73) := fun W hb => ⟨((HR.out.below HM.out.2.2.2).below hb).range ndL_len k hkV, HM.out.2.1.below hb HM.out.2.1.lt⟩
        clear HM
        generalize V[k] = y at *
        generalize cmpEnd y d = cc at *
        unfold ndV at CM
        have HS : ∀ W, Below wr.heap.size wr W → W.cell? ⟨g, k * 7, none⟩ = some (.int .u64 y.id) ∧ W.cell? ⟨g, k * 7 + 1, none⟩ = some (.int .u64 y.par) ∧ W.cell? ⟨g, k * 7 + 2, none⟩ = some (.int .i64 y.org) ∧ W.cell? ⟨g, k * 7 + 3, none⟩ = some (.int .u64 y.tree) ∧ W.cell? ⟨g, k * 7 + 4, none⟩ = some (.int .i64 y.dep) ∧ W.cell? ⟨g, k * 7 + 5, none⟩ = some (.int .i64 y.fr) ∧ W.cell? ⟨g, k * 7 + 6, none⟩ = some (.int .i64 y.til) ∧ W.cell? ⟨w.heap.size + 1, 0, none⟩ = some (.int .u64 d.id) ∧ W.cell? ⟨w.heap.size + 1, 1, none⟩ = some (.int .u64 d.par) ∧ W.cell? ⟨w.heap.size + 1, 2, none⟩ = some (.int .i64 d.org) ∧ W.cell? ⟨w.heap.size + 1, 3, none⟩ = some (.int .u64 d.tree) ∧ W.cell? ⟨w.heap.size + 1, 4, none⟩ = some (.int .i64 d.dep) ∧ W.cell? ⟨w.heap.size + 1, 5, none⟩ = some (.int .i64 d.fr) ∧ W.cell? ⟨w.heap.size + 1, 6, none⟩ = some (.int .i64 d.til) := fun W hb => ⟨(RW.out W hb).1 0 _ rfl, (RW.out W hb).1 1 _ rfl, (RW.out W hb).1 2 _ rfl, (RW.out W hb).1 3 _ rfl, (RW.out W hb).1 4 _ rfl, (RW.out W hb).1 5 _ rfl, (RW.out W hb).1 6 _ rfl, (RW.out W hb).2.cell 0 rfl, (RW.out W hb).2.cell 1 rfl, (RW.out W hb).2.cell 2 rfl, (RW.out W hb).2.cell 3 rfl, (RW.out W hb).2.cell 4 rfl, (RW.out W hb).2.cell 5 rfl, (RW.out W hb).2.cell 6 rfl⟩
        have HSH : Hid (∀ W, Below wr.heap.size wr W → W.cell? ⟨g, k * 7, none⟩ = some (.int .u64 y.id) ∧ W.cell? ⟨g, k * 7 + 1, none⟩ = some (.int .u64 y.par) ∧ W.cell? ⟨g, k * 7 + 2, none⟩ = some (.int .i64 y.org) ∧ W.cell? ⟨g, k * 7 + 3, none⟩ = some (.int .u64 y.tree) ∧ W.cell? ⟨g, k * 7 + 4, none⟩ = some (.int .i64 y.dep) ∧ W.cell? ⟨g, k * 7 + 5, none⟩ = some (.int .i64 y.fr) ∧ W.cell? ⟨g, k * 7 + 6, none⟩ = some (.int .i64 y.til) ∧ W.cell? ⟨w.heap.size + 1, 0, none⟩ = some (.int .u64 d.id) ∧ W.cell? ⟨w.heap.size + 1, 1, none⟩ = some (.int .u64 d.par) ∧ W.cell? ⟨w.heap.size + 1, 2, none⟩ = some (.int .i64 d.org) ∧ W.cell? ⟨w.heap.size + 1, 3, none⟩ = some (.int .u64 d.tree) ∧ W.cell? ⟨w.heap.size + 1, 4, none⟩ = some (.int .i64 d.dep) ∧ W.cell? ⟨w.heap.size + 1, 5, none⟩ = some (.int .i64 d.fr) ∧ W.cell? ⟨w.heap.size + 1, 6, none⟩ = some (.int .i64 d.til)) := HS
        obtain ⟨p0, p1, p2, p3, p4, p5, p6, q0, q1, q2, q3, q4, q5, q6⟩ := HS wr (Below.refl _ _)
        clear HS
        go_wp2
        go_region_held3 (fun W => W.cell? ⟨g, k * 7, none⟩ = some (.int .u64 y.id) ∧ W.cell? ⟨g, k * 7 + 1, none⟩ = some (.int .u64 y.par) ∧ W.cell? ⟨g, k * 7 + 2, none⟩ = some (.int .i64 y.org) ∧ W.cell? ⟨g, k * 7 + 3, none⟩ = some (.int .u64 y.tree) ∧ W.cell? ⟨g, k * 7 + 4, none⟩ = some (.int .i64 y.dep) ∧ W.cell? ⟨g, k * 7 + 5, none⟩ = some (.int .i64 y.fr) ∧ W.cell? ⟨g, k * 7 + 6, none⟩ = some (.int .i64 y.til) ∧ W.cell? ⟨w.heap.size + 1, 0, none⟩ = some (.int .u64 d.id) ∧ W.cell? ⟨w.heap.size + 1, 1, none⟩ = some (.int .u64 d.par) ∧ W.cell? ⟨w.heap.size + 1, 2, none⟩ = some (.int .i64 d.org) ∧ W.cell? ⟨w.heap.size + 1, 3, none⟩ = some (.int .u64 d.tree) ∧ W.cell? ⟨w.heap.size + 1, 4, none⟩ = some (.int .i64 d.dep) ∧ W.cell? ⟨w.heap.size + 1, 5, none⟩ = some (.int .i64 d.fr) ∧ W.cell? ⟨w.heap.size + 1, 6, none⟩ = some (.int .i64 d.til)) (first | exact HS8 | simp [go_sem, p0, p1, p2, p3, p4, p5, p6, q0, q1, q2, q3, q4, q5, q6])
          (first
            | (go_at_call 61; refine (CM _).mono ?_; rintro e w8 ⟨rfl, b8⟩; have HB8 : Hid (Below wr.heap.size wr w8) := (Below.refl wr.heap.size wr).drew.trans b8; have HS8 := HSH.out w8 HB8.out; clear b8))
        have F8 : Hid (MidM w V (k + 1) d w8) := FN.out w8 HB8.out
        go_wp2
        go_roundw
        case rel => exact ⟨k + 1, d, by go_num, by omega, by omega, F8⟩
        case measure => simp [intOf]; omega
    · obtain rfl : k = n := by omega
      have hlt' : ¬ (k : Int) < (k : Int) := by omega
      have RD : Hid (wr.rangeAt (w.heap.size + 1) 0 (ndL d)) := fun j v hv => by rw [Nat.zero_add]; exact HM.out.2.1.cell j (by rw [List.getElem?_toArray]; exact hv)
      go_wp2_with (first
        | (refine wpList_load_mid rfl 73 _ rfl (w.heap.size + 1) 0 rfl (ndL d) _ RD.out Tryz.underlying73 rfl (by kernel_rfl) ?_)
        | (refine wpList_stW rfl 73 _ _ rfl w.heap.size (ndL zNd) (ndL d) 73 HM.out.2.2.1 rfl rfl rfl (by kernel_rfl) (ndL_one d) ?_; intro w9 n9 u9))
      (try simp only [Exit.inBlock, Exit.then])
      refine bodyPost_ret (v := ndV d) ?_ rfl ⟨d, rfl, ?_, ?_, HM.out.2.2.2.trans (u9.below HM.out.2.2.2.size (fun j hj e => by omega))⟩
      · exact results_cell_row rfl _ w9 w.heap.size _ (ndL d).toArray (0, 0) _ rfl n9 Tryz.underlying73 rfl (by kernel_rfl)
      · exact List.mem_of_mem_take HM.out.1.1
      · intro x hx
        have := HM.out.1.2 x (by rw [List.take_of_length_le (by rw [HN.out]; exact Nat.le_refl _)]; exact hx)
        omega
end Go.Proofs.YthajamokaabogaaGreatDoor

namespace Go.Proofs.YthajamokaabogaaGreatDoor
open Go Go.RowKit Go.Maps
set_option maxRecDepth 100000

theorem zero_empty (w : World) (e : TypeId) (he : Tryz.prog.underlying 88 = some (.map 24 e)) : (zeroValue e).run Tryz.prog w = .ok (.agg #[]) w := by
  have h : Tryz.prog.underlying 88 = some (.map 24 102) := Tryz.underlying88
  rw [h] at he
  injection he with he
  injection he with _ he
  subst he
  rfl
/-- A set of IDs in memory, whose values are the empty struct. -/
def SetH (w : World) (b : Nat) (S : List Int) : Prop := ∃ D, ownM w 24 b D ∧ (∀ i, u64J i → Maps.has D (ikey i) = decide (i ∈ S)) ∧ Maps.size D = S.length ∧ ∀ i, u64J i → D.atKey (ikey i) (.held (.agg #[])) = .held (.agg #[])
theorem SetH.made (w : World) : SetH (w.alloc (.map #[] 0)) w.heap.size [] := ⟨.map [], World.ownsMap_made w Tryz.prog 24 valR, fun _ _ => rfl, rfl, fun _ _ => rfl⟩
theorem SetH.upd {S : Nat → Prop} {w w' : World} {b : Nat} {L : List Int} (h : SetH w b L) (hu : Upd S w w') (hS : ¬ S b) : SetH w' b L := by
  obtain ⟨D, h1, h2⟩ := h
  exact ⟨D, h1.upd hu hS, h2⟩
theorem SetH.lt {w : World} {b : Nat} {L : List Int} (h : SetH w b L) : b < w.heap.size := by
  obtain ⟨D, h1, _⟩ := h
  exact World.ownsMap.lt h1
theorem SetH.add {w : World} {b : Nat} {L : List Int} (h : SetH w b L) {i : Int} (hi : u64J i) (hn : i ∉ L) (hl : L.length < 1000000) : ∃ w', (Instr.mapUpdate 88 (.map (some b)) (.int .u64 i) (.agg #[])).run Tryz.prog w = .ok () w' ∧ SetH w' b (L ++ [i]) ∧ Upd (fun k => k = b) w w' := by
  obtain ⟨D, h1, h2, h4, h5⟩ := h
  obtain ⟨w', hr, o1, t1⟩ := World.ownsMap.store h1 lawD Tryz.underlying88 (by rw [h4]; unfold maxLen; omega) (key_d i hi) (valR_mk (.agg #[]))
  refine ⟨w', hr, ⟨_, own_tight o1, fun x hx => ?_, ?_, fun x hx => ?_⟩, turned_updM t1⟩
  · by_cases hxi : x = i
    · subst hxi
      rw [has_put_same (World.ownsMap.isMap h1) (lawD.key (key_d _ hx))]; simp
    · rw [has_put_other (fun e => hxi (ikey_inj e)), h2 x hx]; simp [hxi]
  · rw [size_put (World.ownsMap.tidy h1 lawD), h2 i hi, h4]
    simp [hn]
  · by_cases hxi : x = i
    · subst hxi
      rw [atKey_put_same (World.ownsMap.isMap h1) (lawD.key (key_d _ hx))]
    · rw [atKey_put_other (fun e => hxi (ikey_inj e)), h5 x hx]
/-- Is an ID in the set? -/
theorem SetH.ask {w : World} {b : Nat} {L : List Int} (h : SetH w b L) {i : Int} (hi : u64J i) : (Instr.lookup 88 (.map (some b)) (.int .u64 i) true).run Tryz.prog w = .ok (.tuple #[.agg #[], .bool (decide (i ∈ L))]) w := by
  obtain ⟨D, h1, h2, _, h5⟩ := h
  obtain ⟨v, ps, hr, hv⟩ := World.ownsMap.look_ok h1 lawD Tryz.underlying88 (zero_empty w _ Tryz.underlying88) (valR_mk (.agg #[])) (key_d i hi)
  rw [h5 i hi, valR_mk] at hv
  injection hv with hv
  injection hv with hv _
  injection hv with hv
  subst hv
  rw [h2 i hi] at hr
  exact hr
theorem find_nd {X : List Spot} (hr : RiseS X) {k : Nat} (hk : k < X.length) : X.find? (fun x => decide (x.nd.id = X[k].nd.id)) = some X[k] := by
  rw [List.find?_eq_some_iff_getElem]
  refine ⟨by simp, k, hk, rfl, fun j hj => ?_⟩
  have := hr j k (by omega) hk hj
  simp
  omega
theorem find_no {X : List Spot} {id : Int} (h : ∀ i (hi : i < X.length), X[i].nd.id ≠ id) : X.find? (fun x => decide (x.nd.id = id)) = none := by
  rw [List.find?_eq_none]
  intro x hx
  obtain ⟨i, hi, rfl⟩ := List.mem_iff_getElem.1 hx
  simpa using h i hi
/-- Whom latest looks at, of one ID. -/
def latO (X : List Spot) (T : List Int) (id : Int) : List Nod := match X.find? (fun x => decide (x.nd.id = id)) with
  | some x => if x.nd.tree ∈ T then [] else [x.nd]
  | none => []
def latL (X : List Spot) (T : List Int) (I : List Int) : List Nod := I.flatMap (latO X T)
theorem latL_succ (X : List Spot) (T I : List Int) (k : Nat) (hk : k < I.length) : latL X T (I.take (k + 1)) = latL X T (I.take k) ++ latO X T I[k] := by
  unfold latL
  rw [List.take_add_one, List.getElem?_eq_getElem hk, List.flatMap_append]
  simp only [Option.toList, List.flatMap_cons, List.flatMap_nil, List.append_nil]
theorem latO_len (X : List Spot) (T : List Int) (id : Int) : (latO X T id).length ≤ 1 := by
  unfold latO
  split
  · split <;> simp
  · simp
theorem latL_len (X : List Spot) (T : List Int) : ∀ I : List Int, (latL X T I).length ≤ I.length
  | [] => by simp [latL]
  | a :: r => by
    have h1 := latO_len X T a
    have h2 := latL_len X T r
    unfold latL at h2 ⊢
    rw [List.flatMap_cons, List.length_append, List.length_cons]
    omega
/-- One node more behind a row. -/
theorem wpList_appN {ops : Array Oper} {rest : List Oper} {o : Oper} {a : Act} {Q : Exit → Act → World → Prop} (wr : World) (hgd : o.guard = none) (s x : Operand)
    (ho : o.op = .call { callee := .builtin .append, args := #[s, x], argTypes := #[65, 65] })
    (base : Nat) (v : Value) (n : Nat) (L : List Nod) (d : Nod) (hv : a.eval s = v) (hown : wr.ownsRow base 73 7 v n (L.flatMap ndL)) (hl : L.length = n) (b : Nat) (hbw : b = wr.heap.size) (hx : a.eval x = .slice (some ⟨b, 0, none⟩) 1 1) (hn : n ≤ 1000000) (hbase : base ≤ wr.heap.size)
    (h : ∀ va vc w', w'.ownsRow base 73 7 (.slice va (n + 1) vc) (n + 1) ((L ++ [d]).flatMap ndL) → Upd (fun q => v.ownBlock = some q) wr w' → wpList Tryz.prog ops Q rest (a.put o.dst (.slice va (n + 1) vc)) w') : wpList Tryz.prog ops Q (o :: rest) a (wr.alloc (.cells (ndL d).toArray 73)) := by
  subst hbw
  obtain ⟨i0, hi0, hz0, hz1, hz2⟩ : ∃ i, Tryz.prog.info? 73 = some i ∧ i.zero = some (.agg (ndL zNd).toArray) ∧ i.size = 7 ∧ i.bytes = 56 := by
    have h : (Tryz.prog.info? 73).map (fun i => (i.zero, i.size, i.bytes)) = some (some (.agg (ndL zNd).toArray), 7, 56) := by kernel_rfl
    cases hi : Tryz.prog.info? 73 with
    | none => rw [hi] at h; simp at h
    | some i => rw [hi] at h; simp at h; exact ⟨i, rfl, h.1, h.2.1, h.2.2⟩
  have hB := Blk.new wr (ndL d).toArray 73
  have hown' : (wr.alloc (.cells (ndL d).toArray 73)).ownsRow base 73 7 v n (L.flatMap ndL) := ownsRow_upd hown ((Upd.refl (fun _ => False) wr).alloc _) (fun _ _ h => h)
  have hS : Src Tryz.prog 7 65 (.slice (some ⟨wr.heap.size, 0, none⟩) 1 1) 1 (ndL d) (wr.alloc (.cells (ndL d).toArray 73)) := by
    refine Src.ofSlice _ Tryz.underlying65 _ 1 1 _ rfl (fun j u hj => ?_) (ndL_one _)
    rw [Addr.add_lit, Nat.zero_add]
    exact hB.cell j (by rw [List.getElem?_toArray]; exact hj)
  refine wpList_appW _ hgd s x 65 65 ho base 73 i0 _ 7 56 Tryz.underlying65 hi0 hz0 hz1 hz2 rfl v n _ hv hown' _ 1 _ hx hS (by unfold maxLen; omega) (by omega) (by simp; omega) ?_
  intro v1 w1 o1 g1 m1
  have e : L.flatMap ndL ++ ndL d = (L ++ [d]).flatMap ndL := by simp
  rw [e] at o1
  obtain ⟨va, vc, rfl⟩ := owns_sliceS o1
  exact h va vc w1 o1 (((Upd.refl _ wr).alloc _).grown g1 (fun k _ e => e))
/-- IDs in memory. -/
def IdsAt (w : World) (ida : Option Addr) (I : List Int) : Prop := ∀ k (hk : k < I.length), ∃ a, ida = some a ∧ w.cell? (a.add k) = some (.int .u64 I[k])
theorem IdsAt.below {w w' : World} {ida : Option Addr} {I : List Int} (h : IdsAt w ida I) (hb : Below w.heap.size w w') : IdsAt w' ida I := fun k hk => by
  obtain ⟨a, e, hc⟩ := h k hk
  exact ⟨a, e, (hb.cell (World.block_lt_of_cell? w _ hc)).trans hc⟩
/-- What latest tells. -/
def LatP (l : List Nod) (w : World) (e : Ending) (w' : World) : Prop := ∃ d b, e = .returned (.tuple #[ndV d, .bool b]) ∧ ((b = true ∧ d ∈ l ∧ ∀ x ∈ l, ¬ cmpEnd x d < 0) ∨ (b = false ∧ d = zNd ∧ l = [])) ∧ Below w.heap.size w w'
/-- Midway in latest. -/
def LatI (X : List Spot) (T I : List Int) (w : World) (k ll : Nat) (v : Value) (wr : World) : Prop := wr.ownsRow (w.heap.size + 1) 73 7 v ll ((latL X T (I.take k)).flatMap ndL) ∧ (latL X T (I.take k)).length = ll ∧ Blk wr w.heap.size (ndL zNd).toArray 73 ∧ Below w.heap.size w wr
theorem LatI.skip {X : List Spot} {T I : List Int} {w : World} {k ll : Nat} {v : Value} {wr w' : World} (h : LatI X T I w k ll v wr) (hk : k < I.length) (ho : latO X T I[k] = []) (hb : Below wr.heap.size wr w') : LatI X T I w (k + 1) ll v w' := by
  unfold LatI
  rw [latL_succ X T I k hk, ho, List.append_nil]
  exact ⟨ownsRow_upd h.1 (Upd.ofBelow (S := fun _ => False) hb (fun k h1 h2 => by omega)) (fun _ _ h => h), h.2.1, h.2.2.1.below hb h.2.2.1.lt, h.2.2.2.trans (hb.mono h.2.2.2.size)⟩
end Go.Proofs.YthajamokaabogaaGreatDoor

namespace Go.Proofs.YthajamokaabogaaGreatDoor
open Go Go.RowKit Go.Maps
set_option maxRecDepth 100000

set_option maxHeartbeats 8000000 in
theorem latest_any (f sb : Nat) (X : List Spot) (K : Nat → List Int) (rv : Value) (R : List Int) (ida : Option Addr) (m ic : Nat) (I : List Int) (tb : Nat) (T : List Int) (w : World) (h : ForestAt w f sb X K rv R) (hI : IdsAt w ida I) (hm : I.length = m) (hm1 : m ≤ 1000000) (hT : SetH w tb T) (ht : ∀ i (h : i < X.length), u64J X[i].nd.tree) :
    Calls Tryz.prog 31 #[.pointer (some ⟨f, 0, none⟩), .slice ida m ic, .map (some tb)] w (LatP (latL X T I) w) := by
  have HF : Hid (ForestAt w f sb X K rv R) := h
  have HI : Hid (IdsAt w ida I) := hI
  have HM : Hid (I.length = m) := hm
  have HT : Hid (SetH w tb T) := hT
  have HTT : Hid (∀ i (h : i < X.length), u64J X[i].nd.tree) := ht
  have HS : Hid (LatI X T I w 0 0 (.slice none 0 0) (w.alloc (.cells #[.int .u64 0, .int .u64 0, .int .i64 0, .int .u64 0, .int .i64 0, .int .i64 0, .int .i64 0] 73))) := ⟨World.ownsRow_nil _ _ _ _, rfl, Blk.new _ _ _, (Below.refl _ _).alloc (Nat.le_refl _) _⟩
  clear h hI hm hT ht
  go_enter Tryz.func31, Tryz.ntmps31
  go_wp2
  go_loopw [8, 17] (fun z8 z17 wr => ∃ (k ll : Nat) (la : Option Addr) (lc : Nat), z8 = .slice la ll lc ∧ z17 = .int .i64 k ∧ k ≤ m ∧ Hid (LatI X T I w k ll (.slice la ll lc) wr)) (fun _ z17 _ => m - (intOf z17).toNat)
  case atStart => exact ⟨0, 0, none, 0, rfl, rfl, by omega, HS⟩
  case round =>
    clear HS
    obtain ⟨k, ll, la, lc, rfl, rfl, hk, HL⟩ := hrel
    have HBr : Hid (Below w.heap.size w wr) := HL.out.2.2.2
    by_cases hlt : k < m
    · have hlt' : (k : Int) < (m : Int) := by omega
      have hkI : k < I.length := by rw [HM.out]; exact hlt
      obtain ⟨ra, rfl, cI⟩ := HI.out.below HBr.out k hkI
      have hF1 : ForestAt wr f sb X K rv R := HF.out.below HBr.out
      have LKG : Hid (∀ t, u64J t → ∀ W, Below wr.heap.size wr W → (Instr.lookup 88 (.map (some tb)) (.int .u64 t) true).run Tryz.prog W = .ok (.tuple #[.agg #[], .bool (decide (t ∈ T))]) W) := fun t ht W hb => (HT.out.upd (Upd.ofBelow (S := fun _ => False) (HBr.out.trans (hb.mono HBr.out.size)) (fun k h1 h2 => by omega)) (fun h => h)).ask ht
      by_cases hx : ∃ j, ∃ hj : j < X.length, X[j].nd.id = I[k]
      · obtain ⟨j, hj, hid⟩ := hx
        have ND := node_at hF1 j hj _ hid
        have HO : latO X T I[k] = if X[j].nd.tree ∈ T then [] else [X[j].nd] := by
          unfold latO
          rw [← hid, find_nd hF1.rise hj]
        have hu := HTT.out j hj
        generalize X[j].nd = d at *
        by_cases hin : d.tree ∈ T
        · rw [if_pos hin] at HO
          have LK : Hid (∀ W, Below wr.heap.size wr W → (Instr.lookup 88 (.map (some tb)) (.int .u64 d.tree) true).run Tryz.prog W = .ok (.tuple #[.agg #[], .bool true]) W) := fun W hb => by have h := LKG.out d.tree hu W hb; rwa [decide_eq_true hin] at h
          have FN : Hid (∀ W, Below wr.heap.size wr W → LatI X T I w (k + 1) ll (.slice la ll lc) W) := fun W hb => HL.out.skip hkI HO hb
          clear HL hF1 LKG HO hin hid hu
          generalize I[k] = id at *
          unfold ndV at ND
          go_wp2_with (go_at_call 56; (with_reducible refine ND.mono ?_); clear ND; rintro e w2 ⟨rfl, b2⟩; have HB2 : Hid (Below wr.heap.size wr (w2.alloc (.cells #[.int .u64 d.id, .int .u64 d.par, .int .i64 d.org, .int .u64 d.tree, .int .i64 d.dep, .int .i64 d.fr, .int .i64 d.til] 73))) := b2.alloc b2.size _; have HN2 : Hid (Blk (w2.alloc (.cells #[.int .u64 d.id, .int .u64 d.par, .int .i64 d.org, .int .u64 d.tree, .int .i64 d.dep, .int .i64 d.fr, .int .i64 d.til] 73)) w2.heap.size #[.int .u64 d.id, .int .u64 d.par, .int .i64 d.org, .int .u64 d.tree, .int .i64 d.dep, .int .i64 d.fr, .int .i64 d.til] 73) := Blk.new _ _ _; have hlk := LK.out _ HB2.out; have HB3 : Hid (Below wr.heap.size wr ((w2.alloc (.cells #[.int .u64 d.id, .int .u64 d.par, .int .i64 d.org, .int .u64 d.tree, .int .i64 d.dep, .int .i64 d.fr, .int .i64 d.til] 73)).alloc (.cells #[] 102))) := HB2.out.alloc HB2.out.size _; clear b2)
          have F3 : Hid _ := FN.out _ HB3.out
          go_roundw
          case rel => exact ⟨k + 1, ll, la, lc, rfl, by go_num, by omega, F3⟩
          case measure => simp [intOf]; omega
        · rw [if_neg hin] at HO
          have LK : Hid (∀ W, Below wr.heap.size wr W → (Instr.lookup 88 (.map (some tb)) (.int .u64 d.tree) true).run Tryz.prog W = .ok (.tuple #[.agg #[], .bool false]) W) := fun W hb => by have h := LKG.out d.tree hu W hb; rwa [decide_eq_false hin] at h
          have HLL : Hid (ll ≤ k) := by
            show ll ≤ k
            have h1 := latL_len X T (I.take k)
            rw [HL.out.2.1, List.length_take] at h1
            omega
          have HNX : Hid (latL X T (I.take (k + 1)) = latL X T (I.take k) ++ [d]) := by show _ = _; rw [latL_succ X T I k hkI, HO]
          clear hF1 LKG HO hin hid hu
          generalize I[k] = id at *
          unfold ndV at ND
          go_wp2_with (first
            | (go_at_call 56; (with_reducible refine ND.mono ?_); clear ND; rintro e w2 ⟨rfl, b2⟩; have HB2 : Hid (Below wr.heap.size wr (w2.alloc (.cells #[.int .u64 d.id, .int .u64 d.par, .int .i64 d.org, .int .u64 d.tree, .int .i64 d.dep, .int .i64 d.fr, .int .i64 d.til] 73))) := b2.alloc b2.size _; have HN2 : Hid (Blk (w2.alloc (.cells #[.int .u64 d.id, .int .u64 d.par, .int .i64 d.org, .int .u64 d.tree, .int .i64 d.dep, .int .i64 d.fr, .int .i64 d.til] 73)) w2.heap.size #[.int .u64 d.id, .int .u64 d.par, .int .i64 d.org, .int .u64 d.tree, .int .i64 d.dep, .int .i64 d.fr, .int .i64 d.til] 73) := Blk.new _ _ _; have hlk := LK.out _ HB2.out; have HB3 : Hid (Below wr.heap.size wr ((w2.alloc (.cells #[.int .u64 d.id, .int .u64 d.par, .int .i64 d.org, .int .u64 d.tree, .int .i64 d.dep, .int .i64 d.fr, .int .i64 d.til] 73)).alloc (.cells #[] 102))) := HB2.out.alloc HB2.out.size _; clear b2)
            | (at_builtin; refine wpList_appN _ rfl _ _ rfl (w.heap.size + 1) (.slice la ll lc) ll (latL X T (I.take k)) d rfl (ownsRow_upd HL.out.1 (Upd.ofBelow (S := fun _ => False) HB3.out (fun k h1 h2 => by omega)) (fun _ _ h => h)) HL.out.2.1 (w2.heap.size + 1 + 1) (by simp) rfl (by have := HLL.out; omega) (by have h1 := HB3.out.size; have h2 := Blk.lt HL.out.2.2.1; have h3 := HBr.out.size; omega) ?_; intro va vc w9 o9 u9; have HO9 : Hid _ := o9; have HU9 : Hid _ := u9; clear o9 u9))
          have FN : Hid (LatI X T I w (k + 1) (ll + 1) (.slice va (ll + 1) vc) w9) := by
            have hbs := HBr.out.size
            have hB := HL.out.2.2.1.below HB3.out HL.out.2.2.1.lt
            have e : LatI X T I w (k + 1) (ll + 1) (.slice va (ll + 1) vc) w9 := by
              unfold LatI
              rw [HNX.out]
              exact ⟨HO9.out, by rw [List.length_append, HL.out.2.1]; rfl, hB.upd HU9.out (fun e => by have := (owns_lt HL.out.1 e).1; omega), (HBr.out.trans (HB3.out.mono hbs)).trans (HU9.out.below (Nat.le_trans hbs HB3.out.size) (fun j hj e => by have := (owns_lt HL.out.1 e).1; omega))⟩
            exact e
          go_roundw
          case rel => exact ⟨k + 1, ll + 1, va, vc, rfl, by go_num, by omega, FN⟩
          case measure => simp [intOf]; omega
      · have hn : ∀ i (h : i < X.length), X[i].nd.id ≠ I[k] := fun i hi e => hx ⟨i, hi, e⟩
        have ND := node_no hF1 _ hn
        have LK := LKG.out 0 ⟨by omega, by omega⟩
        have FN : Hid (∀ W, Below wr.heap.size wr W → LatI X T I w (k + 1) ll (.slice la ll lc) W) := fun W hb => HL.out.skip hkI (by unfold latO; rw [find_no hn]) hb
        generalize decide (0 ∈ T) = bb at *
        have LK : Hid (∀ W, Below wr.heap.size wr W → (Instr.lookup 88 (.map (some tb)) (.int .u64 0) true).run Tryz.prog W = .ok (.tuple #[.agg #[], .bool bb]) W) := LK
        clear HL hx hn hF1 LKG
        generalize I[k] = id at *
        unfold ndV zNd at ND
        simp only at ND
        go_wp2_with (go_at_call 56; (with_reducible refine ND.mono ?_); clear ND; rintro e w2 ⟨rfl, b2⟩; have HB2 : Hid (Below wr.heap.size wr (w2.alloc (.cells #[.int .u64 0, .int .u64 0, .int .i64 0, .int .u64 0, .int .i64 0, .int .i64 0, .int .i64 0] 73))) := b2.alloc b2.size _; have HN2 : Hid (Blk (w2.alloc (.cells #[.int .u64 0, .int .u64 0, .int .i64 0, .int .u64 0, .int .i64 0, .int .i64 0, .int .i64 0] 73)) w2.heap.size #[.int .u64 0, .int .u64 0, .int .i64 0, .int .u64 0, .int .i64 0, .int .i64 0, .int .i64 0] 73) := Blk.new _ _ _; have hlk := LK.out _ HB2.out; have HB3 : Hid (Below wr.heap.size wr ((w2.alloc (.cells #[.int .u64 0, .int .u64 0, .int .i64 0, .int .u64 0, .int .i64 0, .int .i64 0, .int .i64 0] 73)).alloc (.cells #[] 102))) := HB2.out.alloc HB2.out.size _; clear b2)
        have F3 : Hid _ := FN.out _ HB3.out
        go_roundw
        case rel => exact ⟨k + 1, ll, la, lc, rfl, by go_num, by omega, F3⟩
        case measure => simp [intOf]; omega
    · obtain rfl : k = m := by omega
      have hlt' : ¬ (k : Int) < (k : Int) := by omega
      have hT : I.take k = I := List.take_of_length_le (by rw [HM.out]; exact Nat.le_refl _)
      by_cases h0 : ll = 0
      · subst h0
        have HE : Hid (latL X T I = []) := by
          have h1 := HL.out.2.1
          rw [hT] at h1
          exact List.eq_nil_of_length_eq_zero h1
        have HB0 : Hid (Blk wr w.heap.size (ndL zNd).toArray 73) := HL.out.2.2.1
        clear HL hT
        go_wp2_with (refine wpList_stW rfl 73 _ _ rfl w.heap.size (ndL zNd) (ndL zNd) 73 HB0.out rfl rfl rfl (by kernel_rfl) (ndL_one zNd) ?_; intro w4 n4 u4; have HN4 : Hid (Blk w4 w.heap.size (ndL zNd).toArray 73) := n4; have HB4 : Hid (Below w.heap.size w w4) := HBr.out.trans (u4.below HBr.out.size (fun j hj e => by omega)); clear n4 u4)
        (try simp only [Exit.inBlock, Exit.then])
        refine bodyPost_ret (v := .tuple #[ndV zNd, .bool false]) ?_ rfl ⟨zNd, false, rfl, Or.inr ⟨rfl, rfl, HE.out⟩, HB4.out⟩
        rw [results_cell_tmp rfl]
        simp [asAddr, Result.andThen, blk_loadN HN4.out]
      · obtain ⟨g, cap, e1, hg, hR⟩ := RwG.of_owns HL.out.1 HL.out.2.1 (by omega)
        injection e1 with e1 _ e2
        subst e1
        subst e2
        have MF := minE_any g lc _ wr hR (by rw [HL.out.2.1]; omega) (by
          have h1 := latL_len X T (I.take k)
          rw [List.length_take] at h1
          omega)
        rw [HL.out.2.1] at MF
        have HB0 : Hid (Blk wr w.heap.size (ndL zNd).toArray 73) := HL.out.2.2.1
        rw [hT] at MF
        have h0' : ¬ (ll : Int) = 0 := by omega
        clear HL hT hR hg
        unfold ndV at MF
        go_wp2_with (first
          | (go_at_call 60; refine MF.mono ?_; clear MF; rintro e w3 ⟨d, rfl, hd, hm, hb3⟩; have HD : Hid (d ∈ latL X T I ∧ ∀ x ∈ latL X T I, ¬ cmpEnd x d < 0) := ⟨hd, hm⟩; have HN3 : Hid (Blk w3 w.heap.size (ndL zNd).toArray 73) := HB0.out.below hb3 HB0.out.lt; have HB3 : Hid (Below w.heap.size w w3) := HBr.out.trans (hb3.mono HBr.out.size); clear hd hm hb3)
          | (refine wpList_stW rfl 73 _ _ rfl w.heap.size (ndL zNd) (ndL d) 73 HN3.out rfl rfl rfl (by kernel_rfl) (ndL_one d) ?_; intro w4 n4 u4; have HN4 : Hid (Blk w4 w.heap.size (ndL d).toArray 73) := n4; have HB4 : Hid (Below w.heap.size w w4) := HB3.out.trans (u4.below HB3.out.size (fun j hj e => by omega)); clear n4 u4))
        (try simp only [Exit.inBlock, Exit.then])
        refine bodyPost_ret (v := .tuple #[ndV d, .bool true]) ?_ rfl ⟨d, true, rfl, Or.inl ⟨rfl, HD.out.1, fun x hx => by have := HD.out.2 x hx; omega⟩, HB4.out⟩
        rw [results_cell_tmp rfl]
        simp [asAddr, Result.andThen, blk_loadN HN4.out]
end Go.Proofs.YthajamokaabogaaGreatDoor
