/-
  KI.
-/
import Derived.Test.YtkkeffodbngibaaGreatDoorKG
import Derived.Test.YtkkeffodbngibaaGreatDoorKHq
namespace Go.Proofs.YtkkeffodbngibaaGreatDoor
open Go Go.RowKit Go.Maps
set_option maxRecDepth 100000

theorem chainNil (W : World) : Calls Tryz.prog 6 #[.pointer none] W fun e W' => e = .returned (.slice none 0 0) ∧ W' = W := by
  go_enter Tryz.func6, Tryz.ntmps6
  go_wp2
  go_ret
  exact ⟨rfl, rfl⟩
set_option maxHeartbeats 8000000 in
theorem sweepChained_any (ad : Option Addr) (n cap : Nat) (X : List Sp) (P : Nat → Pl) (w : World) (hX : SpsAt w ad n X P) (hF : ∀ a ∈ X, a.Fits) (hS : ∀ a ∈ X, a.Small) (hT : Tabs w) :
    Calls Tryz.prog 3 #[.slice ad n cap] w fun e w' => e = .returned (.bool true) ∧ Below w.heap.size w w' := by
  have SH := aliveW_any w hT
  have BD : Hid (∀ w1, Below w.heap.size w w1 → Calls Tryz.prog 5 #[.slice ad n cap] w1 fun e w' => (∃ f sb Y X' K rv R C dp fin, e = .returned (.tuple #[.pointer (some ⟨f, 0, none⟩), .int .i64 0]) ∧ ForestAt w' f sb X' K rv R ∧ FoB Y C dp fin X' K R ∧ Below w.heap.size w w') ∨ (e = .returned (.tuple #[.pointer none, .int .i64 101]) ∧ Below w.heap.size w w')) := fun w1 hb => buildT ad n cap X P w w1 hb hX hF hS hT
  clear hX hF hS hT
  go_enter Tryz.func3, Tryz.ntmps3
  go_wp2_with (first
    | (go_at_call 4; refine SH.mono ?_; clear SH; rintro e w1 ⟨rfl, hb⟩; have B1 := BD.out w1 hb; clear hb BD)
    | (go_at_call 5; refine B1.mono ?_; clear B1; rintro e w2 (⟨f, sb, Y, X', K, rv, R, C, dp, fin, rfl, h1, h2, h3⟩ | ⟨rfl, h3⟩)))
  · have HS2 : Hid (ForestAt w2 f sb X' K rv R ∧ FoB Y C dp fin X' K R ∧ Below w.heap.size w w2) := ⟨h1, h2, h3⟩
    have CH : Calls Tryz.prog 6 #[.pointer (some ⟨f, 0, none⟩)] w2 fun e w3 => ∃ ha q hcap H, e = .returned (.slice ha q hcap) ∧ H.length = q ∧ HopsM (w2.heap.size + 1) w3 (spAt Y) fin (cnK fin K) (.slice ha q hcap) H ∧ HopsR Y.length fin (spAt Y) R H ∧ (H = [] → R = []) ∧ Below w2.heap.size w2 w3 := by
      refine (chain_any f sb X' K rv R Y C dp fin w2 h1 h2).mono ?_
      rintro e w3 ⟨ha, hcap, H, rfl, a1, a2, a3, a4⟩
      exact ⟨ha, _, hcap, H, rfl, rfl, a1, a2, a3, a4⟩
    have RT : Hid (∀ w3, Below w2.heap.size w2 w3 → Calls Tryz.prog 7 #[.pointer (some ⟨f, 0, none⟩)] w3 fun e w4 => ∃ rc m, e = .returned (.slice (some ⟨rc, 0, none⟩) m m) ∧ R.length = m ∧ Blk w4 rc (fillC .u64 (idsOf X' R) 0) 33 ∧ Below w3.heap.size w3 w4) := fun w3 hb => by
      refine (roots_any f sb X' K rv R w3 (h1.below hb)).mono ?_
      rintro e w4 ⟨rc, rfl, a1, _, a3⟩
      exact ⟨rc, _, rfl, rfl, a1, a3⟩
    clear h1 h2 h3
    go_upto_region 7 with (first
      | (go_at_call 6; refine CH.mono ?_; clear CH; rintro e w3 ⟨ha, q, hcap, H, rfl, hq, hM, hR, hH, hb3⟩; have RT3 := RT.out w3 hb3; have HC3 : Hid (H.length = q ∧ HopsM (w2.heap.size + 1) w3 (spAt Y) fin (cnK fin K) (.slice ha q hcap) H ∧ HopsR Y.length fin (spAt Y) R H ∧ (H = [] → R = []) ∧ Below w2.heap.size w2 w3) := ⟨hq, hM, hR, hH, hb3⟩; clear hq hM hR hH hb3 RT)
      | (go_at_call 7; refine RT3.mono ?_; clear RT3; rintro e w4 ⟨rc, m, rfl, hm, hrc, hb4⟩; have HC4 : Hid (R.length = m ∧ Blk w4 rc (fillC .u64 (idsOf X' R) 0) 33 ∧ Below w3.heap.size w3 w4) := ⟨hm, hrc, hb4⟩; clear hm hrc hb4))
    have hqm : (q = 0 ∧ m = 0) ∨ (0 < q ∧ 0 < m) := by
      obtain ⟨a1, a2, a3, a4, a5⟩ := HC3.out
      obtain ⟨b1, _, _⟩ := HC4.out
      by_cases hq : q = 0
      · have : R = [] := a4 (List.eq_nil_of_length_eq_zero (by omega))
        rw [this] at b1
        exact Or.inl ⟨hq, by simpa using b1.symm⟩
      · refine Or.inr ⟨by omega, ?_⟩
        have hH : 0 < H.length := by omega
        have hx := (a3.each H[0] (List.getElem_mem hH)).1
        obtain ⟨x, hxR, _⟩ := HS2.out.2.1.top _ _ rfl hx
        rw [← b1]
        exact List.length_pos_of_mem hxR
    rcases hqm with ⟨rfl, rfl⟩ | ⟨hq0, hm0⟩
    · have HE : Hid (Below w.heap.size w w4) := (HS2.out.2.2.trans (HC3.out.2.2.2.2.mono HS2.out.2.2.size)).trans (HC4.out.2.2.mono (Nat.le_trans HS2.out.2.2.size HC3.out.2.2.2.2.size))
      clear HS2 HC3 HC4
      go_wp2
      go_loopw [8] (fun y wr => y = .int .i64 0 ∧ wr = w4) (fun _ _ => 0)
      case atStart => exact ⟨rfl, rfl⟩
      case round =>
        obtain ⟨rfl, rfl⟩ := hrel
        go_wp2
        go_ret
        exact ⟨rfl, HE.out⟩
    · have dq : ((q : Int) == 0) = false := by simp; omega
      have dm : ((m : Int) == 0) = false := by simp; omega
      have hb4 : Below w.heap.size w w4 := (HS2.out.2.2.trans (HC3.out.2.2.2.2.mono HS2.out.2.2.size)).trans (HC4.out.2.2.mono (Nat.le_trans HS2.out.2.2.size HC3.out.2.2.2.2.size))
      have HB4 : Hid (Below w.heap.size w w4) := hb4
      obtain ⟨g, hg, hop⟩ := hop_facts f sb X' K rv R Y C dp fin w4 (w2.heap.size + 1) (HS2.out.1.below (HC3.out.2.2.2.2.trans (HC4.out.2.2.mono HC3.out.2.2.2.2.size))) HS2.out.2.1 rc m HC4.out.1 HC4.out.2.1 ha q hcap H HC3.out.1 (HC3.out.2.1.below HC4.out.2.2) HC3.out.2.2.1 hq0
      subst hg
      have HOP : Hid (∀ i, i < q → ∃ dx dy gap lv, HopF f rc m g w4 i dx dy gap lv) := hop
      have hql : q ≤ 1000 := by have := HC3.out.2.2.1.len; have := HC3.out.1; have := HS2.out.2.1.one.len; omega
      clear hop HS2 HC3 HC4 hb4
      go_wp2
      clear dq dm
      go_loopw [8] (fun z wr => ∃ i : Nat, z = .int .i64 i ∧ i ≤ q ∧ Hid (Below w4.heap.size w4 wr)) (fun z _ => q - (intOf z).toNat)
      case atStart => exact ⟨0, rfl, by omega, Below.refl _ _⟩
      case round =>
        obtain ⟨i, rfl, hiq, HBR⟩ := hrel
        by_cases hlt : i < q
        · obtain ⟨dx, dy, gap, lv, hH⟩ := HOP.out i hlt
          have HH : Hid (HopF f rc m g w4 i dx dy gap lv) := hH
          have hin : (i : Int) < (q : Int) := by omega
          obtain ⟨c0, c1, c2, c3⟩ := hH.cells wr HBR.out
          have NY := hH.ny wr HBR.out
          clear hH HOP
          unfold ndV at NY
          go_upto_region 13 with (go_at_call 8; refine NY.mono ?_; clear NY; rintro e w5 ⟨rfl, hb5⟩; have HB5 : Hid (Below wr.heap.size wr w5) := hb5; clear hb5)
          obtain ⟨V5, hV5⟩ : ∃ V, w5.alloc (.cells #[.int .u64 dy.id, .int .u64 dy.par, .int .i64 dy.org, .int .u64 dy.tree, .int .i64 dy.dep, .int .i64 dy.fr, .int .i64 dy.til] 38) = V := ⟨_, rfl⟩
          have HV5 : Hid (Blk V5 w5.heap.size (ndL dy).toArray 38 ∧ Below w4.heap.size w4 V5) := by
            rw [← hV5]
            exact ⟨Blk.new _ _ _, (HBR.out.trans (HB5.out.mono HBR.out.size)).alloc (Nat.le_trans HBR.out.size HB5.out.size) _⟩
          obtain ⟨nb, hnb⟩ : ∃ b, w5.heap.size = b := ⟨_, rfl⟩
          rw [hnb] at HV5 ⊢
          clear c0 c1 c2 c3
          have c0 := (HH.out.cells V5 HV5.out.2).1
          have NX := HH.out.nx V5 HV5.out.2
          unfold ndV at NX
          rw [hV5]
          clear hV5 hnb HB5
          go_upto_region 14 with (go_at_call 8; refine NX.mono ?_; clear NX; rintro e w6 ⟨rfl, hb6⟩; have HB6 : Hid (Below V5.heap.size V5 w6) := hb6; clear hb6)
          obtain ⟨V6, hV6⟩ : ∃ V, w6.alloc (.cells #[.int .u64 dx.id, .int .u64 dx.par, .int .i64 dx.org, .int .u64 dx.tree, .int .i64 dx.dep, .int .i64 dx.fr, .int .i64 dx.til] 38) = V := ⟨_, rfl⟩
          have HV6 : Hid (∀ wz, Below V6.heap.size V6 wz → Blk wz nb (ndL dy).toArray 38 ∧ Blk wz w6.heap.size (ndL dx).toArray 38 ∧ Below w4.heap.size w4 wz) := fun wz hz => by
            have q1 : Below V5.heap.size V5 V6 := by rw [← hV6]; exact HB6.out.alloc HB6.out.size _
            have q2 : Blk V6 w6.heap.size (ndL dx).toArray 38 := by rw [← hV6]; exact Blk.new _ _ _
            have q3 := q1.trans (hz.mono q1.size)
            exact ⟨HV5.out.1.below q3 HV5.out.1.lt, q2.below hz q2.lt, HV5.out.2.trans (q3.mono HV5.out.2.size)⟩
          obtain ⟨rb, hrb⟩ : ∃ b, w6.heap.size = b := ⟨_, rfl⟩
          rw [hrb] at HV6 ⊢
          have b6 := (HV6.out V6 (Below.refl _ _)).2.2
          clear c0
          have c0 := (HH.out.cells V6 b6).1
          have PT := HH.out.path V6 b6
          rw [hV6]
          clear hV6 hrb HB6 HV5 b6
          go_upto_region 15 with (go_at_call 9; refine PT.mono ?_; clear PT; rintro e w7 ⟨pa, pl, pc, rfl, hb7, hsl⟩; have HB7 : Hid (Below V6.heap.size V6 w7) := hb7; have SL := hsl w7 (Below.refl _ _); clear hb7 hsl)
          have HV7 : Hid (∀ wz, Below w7.heap.size w7 wz → Blk wz nb (ndL dy).toArray 38 ∧ Blk wz rb (ndL dx).toArray 38 ∧ Below w4.heap.size w4 wz) := fun wz hz => HV6.out wz (HB7.out.trans (hz.mono HB7.out.size))
          obtain ⟨n7, r7, b7⟩ := HV7.out w7 (Below.refl _ _)
          clear c0
          have c3 := (HH.out.cells w7 b7).2.2.2
          have n3 : w7.cell? ⟨nb, 3, none⟩ = some (.int .u64 dx.id) := by rw [← HH.out.tree]; exact n7.cell 3 rfl
          have r0 : w7.cell? ⟨rb, 0, none⟩ = some (.int .u64 dx.id) := r7.cell 0 rfl
          clear HV6 HB7 n7 r7 b7
          go_upto_region 17 with (go_at_call 10; refine SL.mono ?_; clear SL; rintro e w8 ⟨rfl, hb8⟩; have HB8 : Hid (Below w7.heap.size w7 w8) := hb8; clear hb8)
          have HV8 : Hid (∀ wz, Below w8.heap.size w8 wz → Blk wz nb (ndL dy).toArray 38 ∧ Blk wz rb (ndL dx).toArray 38 ∧ Below w4.heap.size w4 wz) := fun wz hz => HV7.out wz (HB8.out.trans (hz.mono HB8.out.size))
          clear HV7 HB8 n3 r0 c3
          go_wp2
          go_loopw [15] (fun z wq => ∃ k : Nat, z = .int .i64 k ∧ k ≤ i ∧ Hid (Below w8.heap.size w8 wq)) (fun z _ => i - (intOf z).toNat)
          case atStart => exact ⟨0, rfl, by omega, Below.refl _ _⟩
          case round =>
            obtain ⟨k, rfl, hki, HBQ⟩ := hrel
            by_cases hlk : k < i
            · obtain ⟨idk, hne, hck⟩ := HH.out.two k hlk
              have hkin : (k : Int) < (i : Int) := by omega
              have hkq : (k : Int) < (q : Int) := by omega
              have b9 := (HV8.out wr HBQ.out).2.2
              have ck := hck wr b9
              have ci := (HH.out.cells wr b9).1
              have dk : decide (idk = dx.id) = false := decide_eq_false hne
              have dk' : (idk == dx.id) = false := by simp [hne]
              have HD : Hid (∀ j, Below w8.heap.size w8 (wr.drewN j)) := fun j => below_drewN HBQ.out j
              clear hck hne b9
              go_upto_region 20 with fail
              go_quiet (fail)
              go_wp2
              go_roundw
              case rel => exact ⟨k + 1, by go_num, by omega, HD.out _⟩
              case measure => (simp [intOf]; omega)
            · obtain rfl : k = i := by omega
              go_upto_region 22 with fail
              cases k with
              | zero =>
                obtain ⟨hxy, hg0, EN⟩ := HH.out.first rfl
                subst hxy
                subst hg0
                obtain ⟨n9, r9, b9⟩ := HV8.out wr HBQ.out
                obtain ⟨_, z1, z2, _⟩ := HH.out.cells wr b9
                simp only [Nat.zero_mul, Nat.zero_add] at z1 z2
                have HSF : Hid (∀ W, Below wr.heap.size wr W → (W.cell? ⟨g, 1, none⟩ = some (.int .u64 dy.id) ∧ W.cell? ⟨g, 2, none⟩ = some (.int .i64 0) ∧ W.cell? ⟨rb, 0, none⟩ = some (.int .u64 dy.id) ∧ W.cell? ⟨rb, 1, none⟩ = some (.int .u64 dy.par) ∧ W.cell? ⟨rb, 2, none⟩ = some (.int .i64 dy.org) ∧ W.cell? ⟨rb, 3, none⟩ = some (.int .u64 dy.tree) ∧ W.cell? ⟨rb, 4, none⟩ = some (.int .i64 dy.dep) ∧ W.cell? ⟨rb, 5, none⟩ = some (.int .i64 dy.fr) ∧ W.cell? ⟨rb, 6, none⟩ = some (.int .i64 dy.til)) ∧ Below w4.heap.size w4 W) := fun W hb => by
                  have q1 := HV8.out W (HBQ.out.trans (hb.mono HBQ.out.size))
                  obtain ⟨_, y1, y2, _⟩ := HH.out.cells W q1.2.2
                  simp only [Nat.zero_mul, Nat.zero_add] at y1 y2
                  exact ⟨⟨y1, y2, q1.2.1.cell 0 rfl, q1.2.1.cell 1 rfl, q1.2.1.cell 2 rfl, q1.2.1.cell 3 rfl, q1.2.1.cell 4 rfl, q1.2.1.cell 5 rfl, q1.2.1.cell 6 rfl⟩, q1.2.2⟩
                obtain ⟨⟨y1, y2, p0, p1, p2, p3, p4, p5, p6⟩, _⟩ := HSF.out wr (Below.refl _ _)
                have EN' := fun W hb => EN W (HSF.out W hb).2
                unfold ndV at EN'
                clear EN z1 z2 n9 r9 b9
                go_upto_region 23 with fail
                go_region_held3 (fun W => W.cell? ⟨g, 1, none⟩ = some (.int .u64 dy.id) ∧ W.cell? ⟨g, 2, none⟩ = some (.int .i64 0) ∧ W.cell? ⟨rb, 0, none⟩ = some (.int .u64 dy.id) ∧ W.cell? ⟨rb, 1, none⟩ = some (.int .u64 dy.par) ∧ W.cell? ⟨rb, 2, none⟩ = some (.int .i64 dy.org) ∧ W.cell? ⟨rb, 3, none⟩ = some (.int .u64 dy.tree) ∧ W.cell? ⟨rb, 4, none⟩ = some (.int .i64 dy.dep) ∧ W.cell? ⟨rb, 5, none⟩ = some (.int .i64 dy.fr) ∧ W.cell? ⟨rb, 6, none⟩ = some (.int .i64 dy.til)) (first | exact HS9 | simp [go_sem, y1, y2, p0, p1, p2, p3, p4, p5, p6])
                  (first
                    | (go_at_call 11; refine (EN' _ ((Below.refl _ _).drew)).mono ?_; rintro e w9 ⟨rfl, hb9⟩; have HB9 : Hid (Below wr.heap.size wr w9) := (Below.refl wr.heap.size wr).drew.trans hb9; have HS9 := (HSF.out w9 HB9.out).1; clear hb9))
                go_wp2
                go_roundw
                case rel => exact ⟨1, by go_num, by omega, (HSF.out w9 HB9.out).2⟩
                case measure => (simp [intOf]; omega)
              | succ j =>
                obtain ⟨a, d, haid, hmem, hal, hgap, hcj, NP, SP⟩ := HH.out.next j rfl
                have HA : Hid (dy.id ∈ a.links ∧ a.links.length ≤ 16) := ⟨hmem, hal⟩
                rw [IntWalk.i64_left] at hgap
                subst hgap
                obtain ⟨n9, r9, b9⟩ := HV8.out wr HBQ.out
                have cj := hcj wr b9
                have SPJ := SP wr b9
                have HNP : Hid (∀ wr, Below w4.heap.size w4 wr → Calls Tryz.prog 8 #[.pointer (some ⟨f, 0, none⟩), .int .u64 d.id] wr fun e w' => e = .returned (.tuple #[ndV d, .bool true]) ∧ Below wr.heap.size wr w') := NP
                clear hmem hal hcj NP SP n9 r9 b9
                unfold spV spC at SPJ
                rw [haid] at SPJ
                have hj1 : (((j + 1 : Nat) : Int) == 0) = false := by simp; omega
                have hj2 : ((j + 1 : Nat) : Int) - 1 = (j : Int) := by omega
                have hjq : (j : Int) < (q : Int) := by omega
                go_upto_region 26 with (go_at_call 12; refine SPJ.mono ?_; clear SPJ; rintro e w9 ⟨⟨pla, plc, paa, pac, pea, pec⟩, rfl, hids, hb9⟩; have HB9 : Hid (Below wr.heap.size wr w9 ∧ IdsAt w9 pla a.links) := ⟨hb9, hids⟩; clear hb9 hids)
                obtain ⟨l, hl⟩ : ∃ l, a.links.length = l := ⟨_, rfl⟩
                have HLN : Hid (a.links.length = l) := hl
                rw [hl]
                obtain ⟨V9, hV9⟩ : ∃ V, w9.alloc (.cells #[.int .u64 a.hi, .int .u64 a.lo, .int .u64 d.id, .int .u64 a.par, .slice pla l plc, .string a.svc, .string a.op, .int .i64 a.kind, .int .i64 a.status, .int .i64 a.start, .int .i64 a.fin, .slice paa a.attrs.length pac, .slice pea a.events.length pec] 55) = V := ⟨_, rfl⟩
                have HV9 : Hid (∀ wz, Below V9.heap.size V9 wz → (wz.cell? ⟨w9.heap.size, 2, none⟩ = some (.int .u64 d.id) ∧ wz.cell? ⟨w9.heap.size, 4, none⟩ = some (.slice pla l plc)) ∧ wz.cell? ⟨nb, 0, none⟩ = some (.int .u64 dy.id) ∧ wz.cell? ⟨nb, 5 + 1, none⟩ = some (.int .i64 dy.til) ∧ IdsAt wz pla a.links ∧ Below w4.heap.size w4 wz) := fun wz hz => by
                  have q1 : Below w9.heap.size w9 V9 := by rw [← hV9]; exact (Below.refl _ _).alloc (Nat.le_refl _) _
                  have q2 : Blk V9 w9.heap.size #[.int .u64 a.hi, .int .u64 a.lo, .int .u64 d.id, .int .u64 a.par, .slice pla l plc, .string a.svc, .string a.op, .int .i64 a.kind, .int .i64 a.status, .int .i64 a.start, .int .i64 a.fin, .slice paa a.attrs.length pac, .slice pea a.events.length pec] 55 := by rw [← hV9]; exact Blk.new _ _ _
                  have q3 := q1.trans (hz.mono q1.size)
                  have q4 := HB9.out.1.trans (q3.mono HB9.out.1.size)
                  have q5 := HV8.out wz (HBQ.out.trans (q4.mono HBQ.out.size))
                  exact ⟨⟨(q2.below hz q2.lt).cell 2 rfl, (q2.below hz q2.lt).cell 4 rfl⟩, q5.1.cell 0 rfl, q5.1.cell 6 rfl, HB9.out.2.below q3, q5.2.2⟩
                obtain ⟨ab, hab⟩ : ∃ b, w9.heap.size = b := ⟨_, rfl⟩
                rw [hab] at HV9 ⊢
                rw [hV9]
                have hl16 : (l : Int) ≤ 16 := by have := HA.out.2; omega
                clear hV9 hab HB9 hl cj HV8 HBQ
                go_wp2
                go_loopw [18, 19] (fun z18 z19 wq => ∃ (k : Nat) (b : Bool), z18 = .bool b ∧ z19 = .int .i64 k ∧ k ≤ l ∧ Hid (b = decide (dy.id ∈ a.links.take k)) ∧ Hid (Below V9.heap.size V9 wq)) (fun _ z19 _ => l - (intOf z19).toNat)
                case atStart => exact ⟨0, false, rfl, rfl, by omega, rfl, Below.refl _ _⟩
                case round =>
                  obtain ⟨k, b, rfl, rfl, hkl, HBL, HBZ⟩ := hrel
                  obtain ⟨⟨a2, a4⟩, m0, m6, hids, _⟩ := HV9.out wr HBZ.out
                  by_cases hlk : k < l
                  · have hkin : (k : Int) < (l : Int) := by omega
                    have hkA : k < a.links.length := by rw [HLN.out]; exact hlk
                    obtain ⟨ra, rfl, cI⟩ := hids k hkA
                    have HNX : Hid (decide (dy.id ∈ a.links.take (k + 1)) = (b || decide (a.links[k] = dy.id))) := by
                      have e : a.links.take (k + 1) = a.links.take k ++ [a.links[k]] := by rw [List.take_add_one, List.getElem?_eq_getElem hkA]; rfl
                      have e2 : (dy.id ∈ a.links.take (k + 1)) ↔ (dy.id ∈ a.links.take k ∨ a.links[k] = dy.id) := by
                        rw [e, List.mem_append, List.mem_singleton]
                        exact or_congr Iff.rfl eq_comm
                      show _ = _
                      rw [HBL.out, ← Bool.decide_or]
                      exact decide_eq_decide.2 e2
                    have HD : Hid (∀ j, Below V9.heap.size V9 (wr.drewN j)) := fun j => below_drewN HBZ.out j
                    generalize a.links[k] = lk at *
                    clear hids m6
                    go_upto_region 30 with fail
                    cases b with
                    | true =>
                      go_quiet (fail)
                      go_wp2
                      go_roundw
                      case rel => exact ⟨k + 1, true, rfl, by go_num, by omega, by rw [HNX.out]; rfl, HD.out _⟩
                      case measure => (simp [intOf]; omega)
                    | false =>
                      by_cases hlk2 : lk = dy.id
                      · have dl : (lk == dy.id) = true := by simp [hlk2]
                        have HNE : Hid (lk = dy.id) := hlk2
                        clear hlk2
                        go_quiet (fail)
                        go_wp2
                        go_roundw
                        case rel => exact ⟨k + 1, true, by go_num, by go_num, by omega, by rw [HNX.out, decide_eq_true HNE.out]; rfl, HD.out _⟩
                        case measure => (simp [intOf]; omega)
                      · have dl : (lk == dy.id) = false := by simp [hlk2]
                        have HNE : Hid (¬ lk = dy.id) := hlk2
                        clear hlk2
                        go_quiet (fail)
                        go_wp2
                        go_roundw
                        case rel => exact ⟨k + 1, false, by go_num, by go_num, by omega, by rw [HNX.out, decide_eq_false HNE.out]; rfl, HD.out _⟩
                        case measure => (simp [intOf]; omega)
                  · obtain rfl : k = l := by omega
                    obtain rfl : b = true := by
                      rw [HBL.out, List.take_of_length_le (by rw [HLN.out]; exact Nat.le_refl _)]
                      exact decide_eq_true HA.out.1
                    have b11 := (HV9.out wr HBZ.out).2.2.2.2
                    have NPW := HNP.out wr b11
                    have HG : Hid (∀ W, Below wr.heap.size wr W → W.cell? ⟨g, (j + 1) * 4 + 2, none⟩ = some (.int .i64 (wrap64 (d.fr - dy.til))) ∧ W.cell? ⟨nb, 5 + 1, none⟩ = some (.int .i64 dy.til) ∧ Below w4.heap.size w4 W) := fun W hb => by
                      have q1 := HV9.out W (HBZ.out.trans (hb.mono HBZ.out.size))
                      exact ⟨(HH.out.cells W q1.2.2.2.2).2.2.1, q1.2.2.1, q1.2.2.2.2⟩
                    unfold ndV at NPW
                    clear m0 m6 hids b11
                    go_upto_region 32 with (go_at_call 8; refine NPW.mono ?_; clear NPW; rintro e w12 ⟨rfl, hb12⟩; have HB12 : Hid (Below wr.heap.size wr w12) := hb12; clear hb12)
                    obtain ⟨V12, hV12⟩ : ∃ V, w12.alloc (.cells #[.int .u64 d.id, .int .u64 d.par, .int .i64 d.org, .int .u64 d.tree, .int .i64 d.dep, .int .i64 d.fr, .int .i64 d.til] 38) = V := ⟨_, rfl⟩
                    have p5 : V12.cell? ⟨w12.heap.size, 5, none⟩ = some (.int .i64 d.fr) := by rw [← hV12]; exact (Blk.new w12 (ndL d).toArray 38).cell 5 rfl
                    have HB13 : Hid (Below wr.heap.size wr V12) := by rw [← hV12]; exact HB12.out.alloc HB12.out.size _
                    obtain ⟨g2, g6, _⟩ := HG.out V12 HB13.out
                    have HD : Hid (∀ k, Below w4.heap.size w4 (V12.drewN k)) := fun k => (HG.out _ (below_drewN HB13.out k)).2.2
                    rw [hV12]
                    clear hV12 HB12 a2 a4
                    go_quiet (fail)
                    go_wp2
                    go_roundw
                    case rel => exact ⟨j + 1 + 1, by go_num, by omega, HD.out _⟩
                    case measure => (simp [intOf]; omega)
        · obtain rfl : i = q := by omega
          clear HOP
          go_wp2
          go_ret
          exact ⟨rfl, HB4.out.trans (HBR.out.mono HB4.out.size)⟩
  · have HB2 : Hid (Below w.heap.size w w2) := h3
    clear h3
    go_wp2_with (go_at_call 6; refine (chainNil _).mono ?_; rintro e w3 ⟨rfl, rfl⟩)
    go_ret
    exact ⟨rfl, HB2.out⟩
end Go.Proofs.YtkkeffodbngibaaGreatDoor
