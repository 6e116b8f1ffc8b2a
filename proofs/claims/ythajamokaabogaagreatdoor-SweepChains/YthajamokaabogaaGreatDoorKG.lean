/-
  KG.
-/
import Derived.Test.YthajamokaabogaaGreatDoorKCq
import Derived.Deep.Cut
namespace Go.Proofs.YthajamokaabogaaGreatDoor
open Go Go.RowKit Go.Maps
set_option maxRecDepth 100000

def lenS : Value → Nat
  | .slice _ n _ => n
  | _ => 0
set_option maxHeartbeats 8000000 in
theorem chain_any (f sb : Nat) (X : List Spot) (K : Nat → List Int) (rv : Value) (R : List Int) (Y : List Sp) (C : List Int) (dp : Nat → Nat) (fin : Nat → Nod) (W : World) (hF : ForestAt W f sb X K rv R) (hB : FoB Y C dp fin X K R) :
    Calls Tryz.prog 12 #[.pointer (some ⟨f, 0, none⟩)] W (ChnP X Y fin K R W) := by
  obtain ⟨i0, hi0, hz0, hz1, hz2⟩ := infoHop_parts
  have hmm := @run_makeMap Tryz.prog
  obtain ⟨m, hm⟩ : ∃ m, R.length = m := ⟨_, rfl⟩
  have hm1 : m ≤ 1000 := by
    have q1 := hB.fo.roots.1.length_eq
    have q2 := kidsF_len (cutN C (nmOf (zs Y))) Y.length (-1)
    have q3 := hB.one.len
    omega
  have b1 : Below W.heap.size W (W.alloc (.map #[] 0)) := (Below.refl _ _).alloc (Nat.le_refl _) _
  have RT := roots_any f sb X K rv R (W.alloc (.map #[] 0)) (hF.below b1)
  rw [hm] at RT
  have L0 : Hid (∀ w1 rc, Below (W.heap.size + 1) (W.alloc (.map #[] 0)) w1 → Blk w1 rc (fillC .u64 (idsOf X R) 0) 24 → Calls Tryz.prog 31 #[.pointer (some ⟨f, 0, none⟩), .slice (some ⟨rc, 0, none⟩) m m, .map (some W.heap.size)] w1 fun e w2 => ∃ d b, e = .returned (.tuple #[ndV d, .bool b]) ∧ ∀ w3, Below w2.heap.size w2 w3 → Blk w3 w2.heap.size (ndL d).toArray 73 → ChI X W Y fin K R none 0 0 0 w2.heap.size b w3) := fun w1 rc hb hrc => by
    have hb0 : Below W.heap.size W w1 := b1.trans (hb.mono (by omega))
    have hS0 : SetH w1 W.heap.size [] := (SetH.made W).upd (Upd.ofBelow (S := fun k => W.heap.size + 1 ≤ k) hb (fun k h1 h2 => h2)) (by omega)
    have hil : (idsOf X R).length = m := by unfold idsOf; rw [List.length_map]; exact hm
    refine (latest_any f sb X K rv R (some ⟨rc, 0, none⟩) m m (idsOf X R) W.heap.size [] w1 (hF.below hb0) (fun k hk => ⟨_, rfl, by rw [Addr.add_lit, Nat.zero_add]; exact hrc.cell k (by simp [fillC, hk])⟩) hil (by omega) hS0 (fun i hi => by
      have hl := hB.fo.len
      rw [(hB.fo.each i (by omega) hi).2]
      exact (hB.u64 i (by omega)).2)).mono ?_
    rintro e w2 ⟨d, b, rfl, hor, hb2⟩
    refine ⟨d, b, rfl, fun w3 hb3 hB3 => ?_⟩
    have hb13 : Below w1.heap.size w1 w3 := hb2.trans (hb3.mono hb2.size)
    have hs := hS0.lt
    refine ⟨[], d, rfl, ⟨World.ownsRow_nil _ _ _ _, fun h hh => (by cases hh), fun _ => rfl⟩, HopsR.nil _ _ _ _ _, hS0.upd (Upd.ofBelow (S := fun _ => False) hb13 (fun k h1 h2 => by omega)) (fun h => h), hB3, by have := hb2.size; omega, ?_, hb0.trans (hb13.mono (by omega))⟩
    rcases hor with ⟨rfl, hd, hm⟩ | ⟨rfl, _, hn⟩
    · obtain ⟨y, rfl, hN⟩ := next_first hB (spAt Y) hd hm
      exact Or.inl ⟨rfl, y, rfl, hN⟩
    · exact Or.inr ⟨rfl, fun _ => first_none hB hn, fun i hi => absurd hi (by simp)⟩
  have HRD : Hid (∀ (la0 : Option Addr) (ll lc0 : Nat) (gap : Int) (fb : Nat) (wr : World), ChI X W Y fin K R la0 ll lc0 gap fb true wr → ∃ d : Nod, Blk wr fb (ndL d).toArray 73 ∧ Calls Tryz.prog 29 #[.pointer (some ⟨f, 0, none⟩), .int .u64 d.tree] wr fun e w1 => e = .returned (.pointer (some ⟨wr.heap.size, 0, none⟩)) ∧ ∃ bx a dx la lc lv xs, ChA X W Y fin K R la0 ll lc0 f fb gap d wr.heap.size bx a dx la lc lv xs w1) := fun la0 ll lc0 gap fb wr h => chain_round f sb X K rv R Y C dp fin W hF hB la0 ll lc0 gap fb wr h
  clear hF hB hm b1
  go_enter Tryz.func12, Tryz.ntmps12
  go_wp2_with (first
    | (go_at_call 32; refine RT.mono ?_; clear RT; rintro e w1 ⟨rc, rfl, hrc, hrl, hb1⟩; have LL := L0.out w1 rc (hb1.mono (by simp)) hrc; clear L0 hrc hrl hb1)
    | (go_at_call 31; refine LL.mono ?_; clear LL; rintro e w2 ⟨d, b, rfl, hc⟩; have HC : Hid (∀ w3, Below w2.heap.size w2 w3 → Blk w3 w2.heap.size (ndL d).toArray 73 → ChI X W Y fin K R none 0 0 0 w2.heap.size b w3) := hc; clear hc)
    | (refine wpList_stW rfl 73 _ _ rfl w2.heap.size (ndL zNd) (ndL d) 73 (Blk.new _ _ _) rfl rfl rfl (by kernel_rfl) (ndL_one d) ?_; intro w3 n3 u3; have HI3 : Hid (ChI X W Y fin K R none 0 0 0 w2.heap.size b w3) := HC.out w3 (((Below.refl _ _).alloc (Nat.le_refl _) _).trans (u3.below (by simp) (fun k hk e => by omega))) n3; clear HC n3 u3))
  clear hmm
  go_loopw [3, 5, 6, 7] (fun z3 z5 z6 z7 wr => ∃ (la0 : Option Addr) (ll lc0 : Nat) (gap : Int) (fb : Nat) (b : Bool), z3 = .slice la0 ll lc0 ∧ z5 = .int .i64 gap ∧ z6 = .pointer (some ⟨fb, 0, none⟩) ∧ z7 = .bool b ∧ Hid (ChI X W Y fin K R la0 ll lc0 gap fb b wr)) (fun z3 _ _ _ _ => Y.length + 1 - lenS z3)
  case atStart => exact ⟨none, 0, 0, 0, _, b, rfl, rfl, rfl, rfl, HI3⟩
  case round =>
    clear HI3
    obtain ⟨la0, ll, lc0, gap, fb, b, rfl, rfl, rfl, rfl, HI⟩ := hrel
    cases b with
    | false =>
      clear HRD
      go_wp2
      go_ret
      obtain ⟨H, d', rfl, h1, h2, _, _, _, hor, hb⟩ := HI.out
      rcases hor with ⟨e, _⟩ | ⟨_, hn⟩
      · cases e
      · exact ⟨_, _, H, rfl, h1, h2, hn, hb⟩
    | true =>
      obtain ⟨dy, hfb, SW⟩ := HRD.out la0 ll lc0 gap fb wr HI.out
      have c3 : wr.cell? ⟨fb, 3, none⟩ = some (.int .u64 dy.tree) := hfb.cell 3 rfl
      clear HRD HI hfb
      go_upto_region 9 with (go_at_call 29; refine SW.mono ?_; clear SW; rintro e w1 ⟨rfl, bx, aa, dx, la, lc, lv, xs, hA⟩; obtain ⟨tp, hfb1, ⟨lva, lvn, lvc, rfl⟩, hlY, hll, hsz, hown, hstep⟩ := hA; have HLL : Hid (ll < Y.length ∧ ll ≤ 1000 ∧ W.heap.size + 1 ≤ w1.heap.size) := ⟨hlY, hll, hsz⟩; have HOWN : Hid (∀ u, Below w1.heap.size w1 u → u.ownsRow (W.heap.size + 1) 87 4 (.slice la0 ll lc0) ll xs) := hown; have HSTEP : Hid (∀ u2 u3 va vc, Below w1.heap.size w1 u2 → u2.grownBy u3 (Value.slice la0 ll lc0).ownBlock → u3.ownsRow (W.heap.size + 1) 87 4 (.slice va (ll + 1) vc) (ll + 1) (xs ++ [.int .u64 dx.id, .int .u64 dy.id, .int .i64 gap, .slice lva lvn lvc]) → TreeP u3 wr.heap.size bx aa dx la lc (.slice lva lvn lvc) ∧ ∃ w9, (Instr.mapUpdate 88 (.map (some W.heap.size)) (.int .u64 dx.id) (.agg #[])).run Tryz.prog u3 = .ok () w9 ∧ ChL X W Y fin K R va ll vc f fb dy wr.heap.size bx aa dx la lc (.slice lva lvn lvc) w9) := hstep; have t0 := tp.c0; have t2 := tp.c2; have tid := tp.id; have f0 := hfb1.cell 0 (show (ndL dy).toArray[0]? = some (.int .u64 dy.id) from rfl); clear hlY hll hsz hown hstep tp hfb1 c3)
      go_cut [3] from 83 (fun s3 wx => ∃ va vc w9, s3 = .slice va (ll + 1) vc ∧ (TreeP wx wr.heap.size bx aa dx la lc (.slice lva lvn lvc) ∧ (Instr.mapUpdate 88 (.map (some W.heap.size)) (.int .u64 dx.id) (.agg #[])).run Tryz.prog wx = .ok () w9) ∧ ChL X W Y fin K R va ll vc f fb dy wr.heap.size bx aa dx la lc (.slice lva lvn lvc) w9)
      case first =>
        go_region_law (refine step_appX _ (by rfl) _ _ 43 43 (by rfl) (W.heap.size + 1) 87 i0 (.agg #[.int .u64 0, .int .u64 0, .int .i64 0, .slice none 0 0]) 4 48 Tryz.underlying43 hi0 hz0 hz1 hz2 rfl (.slice la0 ll lc0) ll xs (by rfl) (HOWN.out _ (by repeat' first | exact Below.refl _ _ | refine Below.alloc ?_ (by first | omega | (simp; omega) | (simp; done)) _ | refine Below.drew ?_)) (.slice (some ⟨w1.heap.size, 0, none⟩) 1 1) 1 [.int .u64 dx.id, .int .u64 dy.id, .int .i64 gap, .slice lva lvn lvc] (by rfl) (src_at4 Tryz.underlying43 (by first | exact heap_alloc_new _ _ | exact heap_alloc_new w1.drew _) rfl rfl rfl rfl) (by have := HLL.out; unfold maxLen; omega) (by have := HLL.out; omega) (by have := HLL.out; first | (simp; omega) | omega) ?_; intro v8 w8 o8 g8 m8; obtain ⟨va, vc, rfl⟩ := owns_sliceS o8; obtain ⟨tp8, w9, hrun, hL⟩ := HSTEP.out _ w8 va vc (by repeat' first | exact Below.refl _ _ | refine Below.alloc ?_ (by first | omega | (simp; omega) | (simp; done)) _ | refine Below.drew ?_) g8 o8; have HL9 : Hid (ChL X W Y fin K R va ll vc f fb dy wr.heap.size bx aa dx la lc (.slice lva lvn lvc) w9) := hL; have HT8 : Hid (TreeP w8 wr.heap.size bx aa dx la lc (.slice lva lvn lvc) ∧ (Instr.mapUpdate 88 (.map (some W.heap.size)) (.int .u64 dx.id) (.agg #[])).run Tryz.prog w8 = .ok () w9) := ⟨tp8, hrun⟩; clear o8 g8 m8 tp8 hL HOWN HSTEP hrun)
        all_goals
          go_wp2
          go_meet
          case rel => exact ⟨va, vc, w9, rfl, HT8.out, HL9.out⟩
      case rest =>
        obtain ⟨va, vc, w9, rfl, ⟨tp8, hrun⟩, hL⟩ := hcut
        have s0 := tp8.c0
        have sid := tp8.id
        obtain ⟨tp9, LA⟩ := hL
        have n0 := tp9.c0
        have nlk := tp9.lk
        clear tp8 tp9 t0 t2 tid f0 HOWN HSTEP
        go_upto_region 12 with (first
          | (go_at_call 31; refine LA.mono ?_; clear LA; rintro e w10 ⟨d', b', rfl, hf10, hK⟩; have HF10 : Hid (Blk w10 fb (ndL dy).toArray 73) := hf10; have HK : Hid (∀ w11, Blk w11 fb (ndL d').toArray 73 → Upd (fun k => k = fb) w10 w11 → TreeP w11 wr.heap.size bx aa dx la lc (.slice lva lvn lvc) ∧ W.heap.size < w11.heap.size ∧ ∀ w12 fb', Below w11.heap.size w11 w12 → Blk w12 fb' (ndL d').toArray 73 → w11.heap.size ≤ fb' → ChI X W Y fin K R va (ll + 1) vc (IntKind.i64.wrap (dx.fr - d'.til)) fb' b' w12) := hK; clear hK hf10 hrun s0 sid n0 nlk)
          | (refine wpList_stW rfl 73 _ _ rfl fb (ndL dy) (ndL d') 73 HF10.out rfl rfl rfl (by kernel_rfl) (ndL_one d') ?_; intro w11 n11 u11; obtain ⟨tp11, hs11, hE⟩ := HK.out w11 n11 u11; have HE : Hid (∀ w12 fb', Below w11.heap.size w11 w12 → Blk w12 fb' (ndL d').toArray 73 → w11.heap.size ≤ fb' → ChI X W Y fin K R va (ll + 1) vc (IntKind.i64.wrap (dx.fr - d'.til)) fb' b' w12) := hE; have m0 := tp11.c0; have mfr := tp11.fr; have m6 : w11.cell? ⟨fb, 5 + 1, none⟩ = some (.int .i64 d'.til) := n11.cell 6 rfl; have HN11 : Hid (Blk w11 fb (ndL d').toArray 73) := n11; clear n11 u11 tp11 hE HK HF10))
        go_quiet (fail)
        go_upto_region 13 with fail
        obtain ⟨w12, hw12⟩ : ∃ V, w11.drewN nq = V := ⟨_, rfl⟩
        have HB12 : Hid (Below w11.heap.size w11 w12) := by rw [← hw12]; exact below_drewN (Below.refl _ _) nq
        have HZ12 : Hid (w12.heap.size = w11.heap.size) := by rw [← hw12]; rfl
        have HN12 : Hid (w12.rangeAt fb 0 (ndL d')) := range_blk (HN11.out.below HB12.out HN11.out.lt)
        rw [hw12]
        clear hw12 m0 mfr m6 HN11
        go_wp2_with (first
          | (refine wpList_load_mid rfl 73 _ rfl fb 0 rfl (ndL d') _ HN12.out Tryz.underlying73 rfl (by kernel_rfl) ?_)
          | (refine wpList_stW rfl 73 _ _ rfl w12.heap.size (ndL zNd) (ndL d') 73 (Blk.new _ _ _) rfl rfl rfl (by kernel_rfl) (ndL_one d') ?_; intro w13 n13 u13; have HI13 : Hid (ChI X W Y fin K R va (ll + 1) vc (IntKind.i64.wrap (dx.fr - d'.til)) w12.heap.size b' w13) := HE.out w13 _ ((HB12.out.alloc HB12.out.size _).trans (u13.below (by have := HZ12.out; rw [World.size_alloc]; omega) (fun k hk e => by have := HZ12.out; omega))) n13 (by have := HZ12.out; omega); clear n13 u13 HE))
        simp only [Act.put]
        go_roundw
        case rel => exact ⟨va, ll + 1, vc, IntKind.i64.wrap (dx.fr - d'.til), _, b', rfl, by rw [IntWalk.i64_left], rfl, rfl, HI13⟩
        case measure => (have := HLL.out.1; simp only [lenS]; omega)
end Go.Proofs.YthajamokaabogaaGreatDoor
