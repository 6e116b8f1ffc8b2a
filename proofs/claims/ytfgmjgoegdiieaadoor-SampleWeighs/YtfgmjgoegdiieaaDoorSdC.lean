/-
  SdC.
-/
import Derived.Test.YtfgmjgoegdiieaaDoorSdB
import Derived.Test.YtfgmjgoegdiieaaDoorSaMq
namespace Go.Proofs.YtfgmjgoegdiieaaDoor
open Go Go.RowKit
set_option maxRecDepth 100000

/-- The first sixteen bits of a trace's mix. -/
def mix48 (a : Sp) : Int := bvI (mixB (BitVec.ofInt 64 a.hi) (BitVec.ofInt 64 a.lo)) / 281474976710656
def firstMix (X : List Sp) : Int := match X with
  | [] => 0
  | a :: _ => mix48 a
/-- Does a policy hold? -/
def holdsB (p : Pol) (X : List Sp) : Bool :=
  if p.kind = 1 then X.any (fun a => decide (a.status = 2))
  else if p.kind = 2 then decide (p.nanos ≤ tookN X)
  else if p.kind = 3 then X.any (fun a => decide (a.svc = p.name))
  else if p.kind = 4 then decide (firstMix X < IntKind.u64.wrap p.part)
  else true
theorem bvI_shr48 (a : BitVec 64) : bvI a / (281474976710656 : Int) = bvI (a >>> 48) := bvI_shr a 48
theorem polC_all (p : Pol) : (polC p).toArray = #[.int .i64 p.kind, .int .u64 p.nanos, .string p.name, .int .i64 p.part] := rfl
set_option maxHeartbeats 8000000 in
theorem holdsP_any (l : Pol) (ad : Option Addr) (n cap : Nat) (X : List Sp) (P : Nat → Pl) (w : World) (hX : SpsAt w ad n X P) (hF : ∀ a ∈ X, a.Fits) (hn : n ≤ 1000) (h0 : 0 < n) :
    Calls Tryd.prog 21 #[polV l, .slice ad n cap] w fun e w' => e = .returned (.bool (holdsB l X)) ∧ Below w.heap.size w w' := by
  have hl : X.length = n := hX.len
  obtain ⟨W, hW⟩ : ∃ W, w.alloc (.cells #[.int .i64 l.kind, .int .u64 l.nanos, .string l.name, .int .i64 l.part] 32) = W := ⟨_, rfl⟩
  have hbW : Hid (Below w.heap.size w W) := by rw [← hW]; exact (Below.refl _ _).alloc (Nat.le_refl _) _
  have hK : Blk W w.heap.size (polC l).toArray 32 := by rw [← hW]; exact Blk.new _ _ _
  have XW := hX.below hbW.out
  have FL := hasFailP_any ad n cap X P W XW hn
  have NM := hasNameP_any w.heap.size l ad n cap X P W XW hn hK
  have TK : Hid (∀ q, Calls Tryd.prog 35 #[.slice ad n cap] (W.drewN q) fun e w' => e = .returned (.int .u64 (tookN X)) ∧ Below W.heap.size W w') := fun q => by
    have hb : Below W.heap.size W (W.drewN q) := ⟨rfl, rfl, rfl, Nat.le_refl _, fun _ _ => rfl⟩
    refine (tookP_any ad n cap X P (W.drewN q) (XW.below hb) hn).mono ?_
    rintro e w' ⟨h1, h2⟩
    exact ⟨h1, hb.trans h2⟩
  have c0 : W.cell? ⟨w.heap.size, 0, none⟩ = some (.int .i64 l.kind) := hK.cell 0 rfl
  have c1 : W.cell? ⟨w.heap.size, 1, none⟩ = some (.int .u64 l.nanos) := hK.cell 1 rfl
  have c3 : W.cell? ⟨w.heap.size, 3, none⟩ = some (.int .i64 l.part) := hK.cell 3 rfl
  have h0X : 0 < X.length := by omega
  obtain ⟨b1, o1, rfl, _⟩ := XW.lies h0
  have R0 := XW.range 0 h0X
  obtain ⟨a0, ha0⟩ : ∃ a, X[0]'h0X = a := ⟨_, rfl⟩
  rw [ha0] at R0
  have z0 : W.cell? ⟨b1, o1, none⟩ = some (.int .u64 a0.hi) := by have := R0 0 _ rfl; simpa using this
  have z1 : W.cell? ⟨b1, o1 + 1, none⟩ = some (.int .u64 a0.lo) := by have := R0 1 _ rfl; simpa using this
  have hf := hF a0 (by rw [← ha0]; exact List.getElem_mem h0X)
  have ehi : bvI (BitVec.ofInt 64 a0.hi) = a0.hi := bvI_of _ hf.hi.1 hf.hi.2
  have elo : bvI (BitVec.ofInt 64 a0.lo) = a0.lo := bvI_of _ hf.lo.1 hf.lo.2
  have MX : Hid (∀ V, Calls Tryd.prog 25 #[.agg #[.int .u64 a0.hi, .int .u64 a0.lo]] V fun e w' => e = .returned (.int .u64 (bvI (mixB (BitVec.ofInt 64 a0.hi) (BitVec.ofInt 64 a0.lo)))) ∧ Below V.heap.size V w') := fun V => by
    have := mix_any (BitVec.ofInt 64 a0.hi) (BitVec.ofInt 64 a0.lo) V
    rwa [ehi, elo] at this
  have hfm : Hid (firstMix X = mix48 a0) := by
    show firstMix X = mix48 a0
    match X, h0X, ha0 with
    | x :: r, _, ha0 => simp at ha0; subst ha0; rfl
  obtain ⟨mv, hmv⟩ : ∃ v, bvI (mixB (BitVec.ofInt 64 a0.hi) (BitVec.ofInt 64 a0.lo)) = v := ⟨_, rfl⟩
  have HMV : Hid (mix48 a0 = mv / 281474976710656) := by
    show mix48 a0 = mv / 281474976710656
    rw [← hmv]
    rfl
  rw [hmv] at MX
  obtain ⟨pw, hpw⟩ : ∃ v, IntKind.u64.wrap l.part = v := ⟨_, rfl⟩
  have HPW : Hid (IntKind.u64.wrap l.part = pw) := hpw
  obtain ⟨tk, htk⟩ : ∃ v, tookN X = v := ⟨_, rfl⟩
  have HTK : Hid (tookN X = tk) := htk
  rw [htk] at TK
  have KP : ∀ V, Below W.heap.size W V → V.cell? ⟨w.heap.size, 1, none⟩ = some (.int .u64 l.nanos) := fun V hV => (hV.cell (p := ⟨w.heap.size, 1, none⟩) (World.block_lt_of_cell? W _ c1)).trans c1
  have KM : ∀ V, Below W.heap.size W V → V.cell? ⟨w.heap.size, 3, none⟩ = some (.int .i64 l.part) ∧ V.cell? ⟨b1, o1, none⟩ = some (.int .u64 a0.hi) ∧ V.cell? ⟨b1, o1 + 1, none⟩ = some (.int .u64 a0.lo) := fun V hV =>
    ⟨(hV.cell (p := ⟨w.heap.size, 3, none⟩) (World.block_lt_of_cell? W _ c3)).trans c3, (hV.cell (p := ⟨b1, o1, none⟩) (World.block_lt_of_cell? W _ z0)).trans z0, (hV.cell (p := ⟨b1, o1 + 1, none⟩) (World.block_lt_of_cell? W _ z1)).trans z1⟩
  have B0 : Below W.heap.size W W.drew := (Below.refl _ _).drew
  have hn1 : (0 : Int) < (n : Int) := by omega
  clear hK XW R0 hX hF ehi elo hf ha0 hmv htk c1 c3 z0 z1
  obtain ⟨hb, hhb⟩ : ∃ b, holdsB l X = b := ⟨_, rfl⟩
  have HHB : Hid (holdsB l X = hb) := hhb
  rw [hhb]
  clear hhb
  unfold polV
  go_enter Tryd.func21, Tryd.ntmps21
  go_upto_region 1 with fail
  (try rw [hW])
  clear hW
  obtain ⟨kd, hkd⟩ : ∃ k, l.kind = k := ⟨_, rfl⟩
  have HKD : Hid (l.kind = kd) := hkd
  rw [hkd] at c0
  clear hkd
  have HV : Hid (hb = if kd = 1 then X.any (fun a => decide (a.status = 2)) else if kd = 2 then decide (l.nanos ≤ tk) else if kd = 3 then X.any (fun a => decide (a.svc = l.name)) else if kd = 4 then decide (mv / 281474976710656 < pw) else true) := by
    show hb = if kd = 1 then X.any (fun a => decide (a.status = 2)) else if kd = 2 then decide (l.nanos ≤ tk) else if kd = 3 then X.any (fun a => decide (a.svc = l.name)) else if kd = 4 then decide (mv / 281474976710656 < pw) else true
    rw [← HHB.out]
    unfold holdsB
    rw [HKD.out, HTK.out, hfm.out, HMV.out, HPW.out]
  clear HHB
  by_cases k1 : kd = 1
  · subst k1
    clear TK NM MX KP KM B0 hpw
    go_wp2_with (go_at_call 33; (with_reducible refine FL.mono ?_); clear FL; rintro e w1 ⟨rfl, hb1⟩; have H1 : Hid (Below w.heap.size w w1) := hbW.out.trans (hb1.mono hbW.out.size); clear hb1)
    go_ret
    exact ⟨by rw [HV.out]; simp, H1.out⟩
  · have HV1 := HV.out
    rw [if_neg k1] at HV1
    have HV : Hid _ := HV1
    clear HV1
    have k1b : (kd == 1) = false := by simpa using k1
    clear FL
    by_cases k2 : kd = 2
    · subst k2
      clear NM MX KM hpw k1 k1b
      go_upto_region 5 with fail
      have TK1 : Calls Tryd.prog 35 #[.slice (some ⟨b1, o1, none⟩) n cap] W.drew fun e w' => e = .returned (.int .u64 tk) ∧ Below W.heap.size W w' := TK.out 1
      clear TK
      go_region_held3 (fun V => V.cell? ⟨w.heap.size, 1, none⟩ = some (.int .u64 l.nanos)) (first | exact KP _ B0 | exact KP _ B1) (first
        | (go_at_call 35; (with_reducible refine TK1.mono ?_); clear TK1; rintro e w1 ⟨rfl, hb1⟩; have B1 : Below W.heap.size W w1 := hb1)
        | fail)
      go_wp2
      go_ret
      exact ⟨by rw [HV.out]; simp, hbW.out.trans (B1.mono hbW.out.size)⟩
    · have HV1 := HV.out
      rw [if_neg k2] at HV1
      have HV : Hid _ := HV1
      clear HV1
      have k2b : (kd == 2) = false := by simpa using k2
      clear TK KP
      by_cases k3 : kd = 3
      · subst k3
        clear MX KM hpw B0 k1 k1b k2 k2b
        go_wp2_with (go_at_call 33; (with_reducible refine NM.mono ?_); clear NM; rintro e w1 ⟨rfl, hb1⟩; have H1 : Hid (Below w.heap.size w w1) := hbW.out.trans (hb1.mono hbW.out.size); clear hb1)
        go_ret
        exact ⟨by rw [HV.out]; simp, H1.out⟩
      · have HV1 := HV.out
        rw [if_neg k3] at HV1
        have HV : Hid _ := HV1
        clear HV1
        have k3b : (kd == 3) = false := by simpa using k3
        clear NM
        by_cases k4 : kd = 4
        · subst k4
          clear k1 k1b k2 k2b k3 k3b
          go_upto_region 9 with fail
          go_region_held3 (fun V => V.cell? ⟨w.heap.size, 3, none⟩ = some (.int .i64 l.part) ∧ V.cell? ⟨b1, o1, none⟩ = some (.int .u64 a0.hi) ∧ V.cell? ⟨b1, o1 + 1, none⟩ = some (.int .u64 a0.lo)) (first | exact KM _ B0 | exact KM _ B1) (first
            | (go_at_call 25; (with_reducible refine (MX.out _).mono ?_); clear MX; rintro e w1 ⟨rfl, hb1⟩; have B1 : Below W.heap.size W w1 := B0.trans (hb1.mono B0.size); clear hb1)
            | fail)
          go_wp2
          go_ret
          exact ⟨by rw [HV.out]; simp, hbW.out.trans (B1.mono hbW.out.size)⟩
        · have HV1 := HV.out
          rw [if_neg k4] at HV1
          have HV : Hid _ := HV1
          clear HV1
          have k4b : (kd == 4) = false := by simpa using k4
          clear MX KM hpw B0
          go_wp2
          go_ret
          exact ⟨by rw [HV.out]; rfl, hbW.out⟩
end Go.Proofs.YtfgmjgoegdiieaaDoor
