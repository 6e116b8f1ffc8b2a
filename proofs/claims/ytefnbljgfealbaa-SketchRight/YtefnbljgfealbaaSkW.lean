/-
  Layer 13: SketchSums' walk.
-/
import Derived.Test.YtefnbljgfealbaaSkV
namespace Go.Proofs.Ytefnbljgfealbaa.sk
open Go.RowKit
set_option maxRecDepth 100000

theorem PutAt.take {w : World} {ad : Option Addr} {N : Nat} {l : List (Nat × Nat)} (h : PutAt w ad N l) {n : Nat} (hn : n ≤ N) : PutAt w ad n (l.take n) := by
  have hl : (l.take n).length = n := by rw [List.length_take, h.len]; omega
  refine ⟨hl, fun hp => ?_, fun p hp => h.bin p (List.mem_of_mem_take hp), by have := h.size; omega⟩
  obtain ⟨b, off, ha, hc⟩ := h.lies (by omega)
  refine ⟨b, off, ha, fun i hi => ?_⟩
  rw [List.getElem_take]
  exact hc i (by rw [h.len]; omega)
theorem PutAt.drop {w : World} {b off N : Nat} {l : List (Nat × Nat)} (h : PutAt w (some ⟨b, off, none⟩) N l) {n : Nat} (hn : n ≤ N) : PutAt w (some ⟨b, off + n * 2, none⟩) (N - n) (l.drop n) := by
  have hl : (l.drop n).length = N - n := by rw [List.length_drop, h.len]
  refine ⟨hl, fun hp => ?_, fun p hp => h.bin p (List.mem_of_mem_drop hp), by have := h.size; omega⟩
  obtain ⟨b', off', ha, hc⟩ := h.lies (by omega)
  injection ha with ha
  injection ha with e1 e2 _
  subst e1
  subst e2
  refine ⟨b, off + n * 2, rfl, fun i hi => ?_⟩
  have := hc (n + i) (by rw [h.len]; omega)
  rw [List.getElem_drop, show off + n * 2 + i * 2 = off + (n + i) * 2 by omega]
  exact this
theorem PutAt.none (ad' : Option Addr) (w' : World) : PutAt w' ad' 0 [] := ⟨rfl, (fun h => absurd h (Nat.lt_irrefl 0)), (fun _ h => by cases h), by omega⟩
theorem put_mid {b off N n d : Nat} {l : List (Nat × Nat)} (w5 : World) (h : PutAt w5 (some ⟨b, off, none⟩) N l) (hd : n + d ≤ N) : ∀ (A : Option Addr) (cc : Nat), (A = some ⟨b, off + n * 2, none⟩ ∨ d = 0) → Calls Try.prog 18 #[.slice A d cc] w5 (LawPutP (foldP ((l.drop n).take d)) w5) := by
  intro A cc hA
  rcases hA with rfl | rfl
  · exact put_law _ d cc _ w5 ((h.drop (n := n) (by omega)).take (n := d) (by omega))
  · rw [List.take_zero]
    exact put_law A 0 cc [] w5 (PutAt.none A w5)
theorem put_end2 {b off N m : Nat} {l : List (Nat × Nat)} (w5 : World) (h : PutAt w5 (some ⟨b, off, none⟩) N l) (hm : m ≤ N) : ∀ (A : Option Addr) (cc : Nat), (A = some ⟨b, off + m * 2, none⟩ ∨ N - m = 0) → Calls Try.prog 18 #[.slice A (N - m) cc] w5 (LawPutP (foldP (l.drop m)) w5) := by
  intro A cc hA
  rcases hA with rfl | h0
  · exact put_law _ (N - m) cc _ w5 (h.drop (n := m) hm)
  · rw [h0, List.drop_eq_nil_of_le (by rw [h.len]; omega)]
    exact put_law A 0 cc [] w5 (PutAt.none A w5)
/-- What sameBars tells of two that are one, wherever it stands. -/
def DrewT (w : World) (e : Ending) (w' : World) : Prop := e = .returned (.bool true) ∧ ∃ q, w' = w.drewN q
theorem same_at {w : World} {ao bo : Option Addr} {L M : Nat} {f g : Nat → Nat} (h : SkAt w ao L f) (k : SkAt w bo M g) (ca cb : Nat) (he : ∀ i, i < 1920 → f i = g i) : ∀ W, (∃ q, W = w.drewN q) → Calls Try.prog 22 #[.slice ao L ca, .slice bo M cb] W (DrewT w) := by
  rintro W ⟨q, rfl⟩
  have u : Upd (fun _ => False) w (w.drewN q) := (Upd.refl _ w).drewN q
  refine (same_sk ao bo L M ca cb f g _ (h.upd u (fun _ _ h => h)) (k.upd u (fun _ _ h => h)) he).mono fun e w' hm => ?_
  obtain ⟨h1, n, h2⟩ := hm
  exact ⟨h1, q + n, by rw [h2, drewN_drewN]⟩
theorem eqAO {l l' : List (Nat × Nat)} (h : l.Perm l') (i : Nat) : foldP l i = foldP l' i := by rw [foldP_at, foldP_at, totP_perm h]
theorem parts_tot (l : List (Nat × Nat)) (n d i : Nat) : totP l i = totP (l.take n) i + totP ((l.drop n).take d) i + totP (l.drop (n + d)) i := by
  have e : l = l.take n ++ ((l.drop n).take d ++ l.drop (n + d)) := by
    rw [← List.drop_drop, List.take_append_drop, List.take_append_drop]
  calc totP l i = totP (l.take n ++ ((l.drop n).take d ++ l.drop (n + d))) i := by rw [← e]
    _ = _ := by rw [totP_append, totP_append]; omega
theorem eqL (l : List (Nat × Nat)) (n d i : Nat) : foldP l i = minF (minF (foldP (l.take n)) (foldP ((l.drop n).take d))) (foldP (l.drop (n + d))) i := by
  have := parts_tot l n d i
  unfold minF
  rw [foldP_at, foldP_at, foldP_at, foldP_at]
  omega
theorem eqR (l : List (Nat × Nat)) (n d i : Nat) : foldP l i = minF (foldP (l.take n)) (minF (foldP ((l.drop n).take d)) (foldP (l.drop (n + d)))) i := by
  have := parts_tot l n d i
  unfold minF
  rw [foldP_at, foldP_at, foldP_at, foldP_at]
  omega
theorem eqP (f g : Nat → Nat) (i : Nat) : minF f g i = minF g f i := by unfold minF; rw [Nat.add_comm]
theorem eqE (l : List (Nat × Nat)) (i : Nat) : foldP l i = minF (foldP l) (fun _ => 0) i := by
  show foldP l i = min (foldP l i + 0) topC
  rw [foldP_at]
  omega
set_option maxHeartbeats 4000000 in
theorem sketchSums_some (b off : Nat) (oo : Option Addr) (N ca no co : Nat) (l : List (Nat × Nat)) (r : List Int) (one two : Int) (w : World) (hP : PutAt w (some ⟨b, off, none⟩) N l) (hO : NumAt .i64 w oo no r) (hN : 0 < N) (hca : N ≤ ca)
    (o1 : -9223372036854775808 ≤ one) (o2 : one ≤ 9223372036854775807) (t1 : -9223372036854775808 ≤ two) (t2 : two ≤ 9223372036854775807) :
    Calls Try.prog 6 #[.slice (some ⟨b, off, none⟩) N ca, .slice oo no co, .int .i64 one, .int .i64 two] w fun e w' => e = .returned (.bool true) ∧ Below w.heap.size w w' := by
  have AW := awake_any w
  have hsz := hP.size
  have hN1 : (N : Int) ≤ 8796093022208 := by omega
  have hN0 : (0 : Int) < (N : Int) := by omega
  have hca' : (N : Int) ≤ (ca : Int) := by omega
  have PK1 : ∀ W, Calls Try.prog 17 #[.int .i64 one, .int .i64 ((N : Int) + 1)] W (PickP (N + 1) W) := fun W => pick_any one (N + 1) o1 o2 (by omega) W
  have PK2 : ∀ (n : Nat), n ≤ N → ∀ W, Calls Try.prog 17 #[.int .i64 two, .int .i64 ((N : Int) - (n : Int) + 1)] W (PickP (N - n + 1) W) := fun n hn W => by
    have := pick_any two (N - n + 1) t1 t2 (by omega) W
    rw [show ((N - n + 1 : Nat) : Int) = (N : Int) - (n : Int) + 1 by omega] at this
    exact this
  have PU : Hid (∀ W, Below w.heap.size w W → Calls Try.prog 18 #[.slice (some ⟨b, off, none⟩) N ca] W (LawPutP (foldP l) W)) := fun W hW => put_law _ N ca l W (hP.below hW)
  have HP : Hid _ := hP
  have HO : Hid _ := hO
  clear hP hO o1 o2 t1 t2 hsz
  go_enter Try.func6, Try.ntmps6
  go_wp2_with (first
    | (go_at_call 9; (with_reducible refine AW.mono ?_); clear AW; rintro e w1 ⟨rfl, b1⟩; have HB1 : Hid _ := b1; clear b1)
    | (go_at_call 17; (with_reducible refine (PK1 _).mono ?_); clear PK1; rintro e w' ⟨n, hn, rfl, hw⟩; obtain rfl := hw.symm; have hnN : n ≤ N := (by omega); have hnI : (n : Int) ≤ (N : Int) := (by omega); have PK3 := PK2 n hnN; clear PK2 hn)
    | (go_at_call 17; (with_reducible refine (PK3 _).mono ?_); clear PK3; rintro e w' ⟨d, hd, rfl, hw⟩; obtain rfl := hw.symm; have hdI : (n : Int) + (d : Int) ≤ (N : Int) := (by omega)))
  have Q1 := PU.out w1 HB1.out
  clear PU
  go_wp2_with (first
    | (go_at_call 18; (with_reducible refine Q1.mono ?_); clear Q1; rintro e w2 ⟨aA, LA, cA, rfl, HA2, b2⟩; have HB2 : Hid _ := HB1.out.trans (b2.mono HB1.out.size); clear b2; have MV := moved_any (some ⟨b, off, none⟩) oo N ca no co l r w2 (HP.out.below HB2.out) (HO.out.below HB2.out))
    | (go_at_call 19; (with_reducible refine MV.mono ?_); clear MV; rintro e w3 ⟨am, cm, l', rfl, HM3, b3⟩; have HB3 : Hid _ := HB2.out.trans (b3.mono HB2.out.size); have HA3 : Hid _ := HA2.out.below b3; clear b3; have Q2 := put_law am l.length cm l' w3 HM3.out.1)
    | (go_at_call 18; (with_reducible refine Q2.mono ?_); clear Q2; rintro e w4 ⟨aO, LO, cO, rfl, HO4, b4⟩; have HB4 : Hid _ := HB3.out.trans (b4.mono HB3.out.size); have HA4 : Hid _ := HA3.out.below b4; clear b4; have Q3 := put_law (some ⟨b, off, none⟩) n ca (l.take n) w4 ((HP.out.below HB4.out).take hnN))
    | (go_at_call 18; (with_reducible refine Q3.mono ?_); clear Q3; rintro e w5 ⟨aX, LX, cX, rfl, HX5, b5⟩; have HB5 : Hid _ := HB4.out.trans (b5.mono HB4.out.size); have HA5 : Hid _ := HA4.out.below b5; have HO5 : Hid _ := HO4.out.below b5; clear b5; have Q4 := put_mid (n := n) (d := d) w5 (HP.out.below HB5.out) (by omega))
    | (go_at_call 18; (with_reducible refine (Q4 _ _ (by first | exact Or.inl rfl | (right; omega))).mono ?_); clear Q4; rintro e w6 ⟨aY, LY, cY, rfl, HY6, b6⟩; have HB6 : Hid _ := HB5.out.trans (b6.mono HB5.out.size); have HA6 : Hid _ := HA5.out.below b6; have HO6 : Hid _ := HO5.out.below b6; have HX6 : Hid _ := HX5.out.below b6; clear b6; have Q5 := put_end2 (m := n + d) w6 (HP.out.below HB6.out) (by omega))
    | (go_at_call 18; (with_reducible refine (Q5 _ _ (by first | exact Or.inl rfl | (right; omega))).mono ?_); clear Q5; rintro e w7 ⟨aZ, LZ, cZ, rfl, HZ7, b7⟩; have HB7 : Hid _ := HB6.out.trans (b7.mono HB6.out.size); have HA7 : Hid _ := HA6.out.below b7; have HO7 : Hid _ := HO6.out.below b7; have HX7 : Hid _ := HX6.out.below b7; have HY7 : Hid _ := HY6.out.below b7; clear b7; have M8 := merge_sk aX aY LX LY cX cY _ _ w7 HX7.out HY7.out)
    | (go_at_call 20; (with_reducible refine M8.mono ?_); clear M8; rintro e w8 ⟨aP, LP, cP, rfl, HP8, b8⟩; have HB8 : Hid _ := HB7.out.trans (b8.mono HB7.out.size); have HA8 : Hid _ := HA7.out.below b8; have HO8 : Hid _ := HO7.out.below b8; have HX8 : Hid _ := HX7.out.below b8; have HY8 : Hid _ := HY7.out.below b8; have HZ8 : Hid _ := HZ7.out.below b8; clear b8; have M9 := merge_sk aP aZ LP LZ cP cZ _ _ w8 HP8.out HZ8.out)
    | (go_at_call 20; (with_reducible refine M9.mono ?_); clear M9; rintro e w9 ⟨aL, LL, cL, rfl, HL9, b9⟩; have HB9 : Hid _ := HB8.out.trans (b9.mono HB8.out.size); have HA9 : Hid _ := HA8.out.below b9; have HO9 : Hid _ := HO8.out.below b9; have HX9 : Hid _ := HX8.out.below b9; have HY9 : Hid _ := HY8.out.below b9; have HZ9 : Hid _ := HZ8.out.below b9; have HP9 : Hid _ := HP8.out.below b9; clear b9; have M10 := merge_sk aY aZ LY LZ cY cZ _ _ w9 HY9.out HZ9.out)
    | (go_at_call 20; (with_reducible refine M10.mono ?_); clear M10; rintro e w10 ⟨aS, LS, cS, rfl, HS10, b10⟩; have HB10 : Hid _ := HB9.out.trans (b10.mono HB9.out.size); have HA10 : Hid _ := HA9.out.below b10; have HO10 : Hid _ := HO9.out.below b10; have HX10 : Hid _ := HX9.out.below b10; have HY10 : Hid _ := HY9.out.below b10; have HZ10 : Hid _ := HZ9.out.below b10; have HP10 : Hid _ := HP9.out.below b10; have HL10 : Hid _ := HL9.out.below b10; clear b10; have M11 := merge_sk aX aS LX LS cX cS _ _ w10 HX10.out HS10.out)
    | (go_at_call 20; (with_reducible refine M11.mono ?_); clear M11; rintro e w11 ⟨aR, LR, cR, rfl, HR11, b11⟩; have HB11 : Hid _ := HB10.out.trans (b11.mono HB10.out.size); have HA11 : Hid _ := HA10.out.below b11; have HO11 : Hid _ := HO10.out.below b11; have HX11 : Hid _ := HX10.out.below b11; have HY11 : Hid _ := HY10.out.below b11; have HP11 : Hid _ := HP10.out.below b11; have HL11 : Hid _ := HL10.out.below b11; clear b11; have M12 := merge_sk aY aX LY LX cY cX _ _ w11 HY11.out HX11.out)
    | (go_at_call 20; (with_reducible refine M12.mono ?_); clear M12; rintro e w12 ⟨aQ, LQ, cQ, rfl, HQ12, b12⟩; have HB12 : Hid _ := HB11.out.trans (b12.mono HB11.out.size); have HA12 : Hid _ := HA11.out.below b12; have HO12 : Hid _ := HO11.out.below b12; have HP12 : Hid _ := HP11.out.below b12; have HL12 : Hid _ := HL11.out.below b12; have HR12 : Hid _ := HR11.out.below b12; clear b12; have M13 := merge_sk aA none LA 0 cA 0 _ (fun _ => 0) w12 HA12.out (SkAt.nil w12))
    | (go_at_call 20; (with_reducible refine M13.mono ?_); clear M13; rintro e w13 ⟨aE, LE, cE, rfl, HE13, b13⟩; have HB13 : Hid _ := HB12.out.trans (b13.mono HB12.out.size); have HA13 : Hid _ := HA12.out.below b13; have HO13 : Hid _ := HO12.out.below b13; have HP13 : Hid _ := HP12.out.below b13; have HL13 : Hid _ := HL12.out.below b13; have HR13 : Hid _ := HR12.out.below b13; have HQ13 : Hid _ := HQ12.out.below b13; clear b13; have CK := check_sk aL LL cL _ w13 HL13.out)
    | (go_at_call 21; (with_reducible refine CK.mono ?_); clear CK; rintro e w14 ⟨rfl, b14⟩; have HB14 : Hid _ := HB13.out.trans (b14.mono HB13.out.size); have HA14 : Hid _ := HA13.out.below b14; have HO14 : Hid _ := HO13.out.below b14; have HP14 : Hid _ := HP13.out.below b14; have HL14 : Hid _ := HL13.out.below b14; have HR14 : Hid _ := HR13.out.below b14; have HQ14 : Hid _ := HQ13.out.below b14; have HE14 : Hid _ := HE13.out.below b14; clear b14; have q0 : ∃ q, w14 = w14.drewN q := ⟨0, rfl⟩; have S1 : ∀ W, (∃ q, W = w14.drewN q) → Calls Try.prog 22 #[.slice aA LA cA, .slice aO LO cO] W (DrewT w14) := same_at HA14.out HO14.out cA cO (fun i hi => eqAO HM3.out.2 i); have S2 := same_at HA14.out HL14.out cA cL (fun i hi => eqL l n d i); have S3 := same_at HA14.out HR14.out cA cR (fun i hi => eqR l n d i); have S4 := same_at HP14.out HQ14.out cP cQ (fun i hi => eqP _ _ i); have S5 := same_at HA14.out HE14.out cA cE (fun i hi => eqE l i))
    | (go_at_call 22; (with_reducible refine (S1 _ q0).mono ?_); clear S1; rintro e v1 ⟨rfl, q1⟩)
    | (go_at_call 22; (with_reducible refine (S2 _ q1).mono ?_); clear S2; rintro e v2 ⟨rfl, q2⟩)
    | (go_at_call 22; (with_reducible refine (S3 _ q2).mono ?_); clear S3; rintro e v3 ⟨rfl, q3⟩)
    | (go_at_call 22; (with_reducible refine (S4 _ q3).mono ?_); clear S4; rintro e v4 ⟨rfl, q4⟩)
    | (go_at_call 22; (with_reducible refine (S5 _ q4).mono ?_); clear S5; rintro e v5 ⟨rfl, q5⟩))
  all_goals go_ret
  all_goals (obtain ⟨q, rfl⟩ := q5; exact ⟨rfl, below_drewN HB14.out HB14.out.size q⟩)
theorem put_nil (w : World) (A : Option Addr) (cc : Nat) : Calls Try.prog 18 #[.slice A 0 cc] w (LawPutP (foldP []) w) := put_law A 0 cc [] w (PutAt.none A w)
theorem moved_nil (ad od : Option Addr) (ca no co : Nat) (r : List Int) (w : World) (hO : NumAt .i64 w od no r) :
    Calls Try.prog 19 #[.slice ad 0 ca, .slice od no co] w fun e w' => ∃ ao c, e = .returned (.slice ao 0 c) ∧ Below w.heap.size w w' := by
  refine (moved_any ad od 0 ca no co [] r w (PutAt.none ad w) hO).mono fun e w' h => ?_
  obtain ⟨ao, c, l', h1, _, h3⟩ := h
  exact ⟨ao, c, h1, h3⟩
set_option maxHeartbeats 4000000 in
theorem sketchSums_none (ad oo : Option Addr) (ca no co : Nat) (r : List Int) (one two : Int) (w : World) (hO : NumAt .i64 w oo no r)
    (o1 : -9223372036854775808 ≤ one) (o2 : one ≤ 9223372036854775807) (t1 : -9223372036854775808 ≤ two) (t2 : two ≤ 9223372036854775807) :
    Calls Try.prog 6 #[.slice ad 0 ca, .slice oo no co, .int .i64 one, .int .i64 two] w fun e w' => e = .returned (.bool true) ∧ Below w.heap.size w w' := by
  have AW := awake_any w
  have PK1 : ∀ W, Calls Try.prog 17 #[.int .i64 one, .int .i64 1] W (PickP 1 W) := fun W => pick_any one 1 o1 o2 (by omega) W
  have PK3 : ∀ W, Calls Try.prog 17 #[.int .i64 two, .int .i64 1] W (PickP 1 W) := fun W => pick_any two 1 t1 t2 (by omega) W
  have HO : Hid _ := hO
  clear hO o1 o2 t1 t2
  cases ad with
  | none =>
    go_enter Try.func6, Try.ntmps6
    go_wp2_with (first
      | (go_at_call 9; (with_reducible refine AW.mono ?_); clear AW; rintro e w1 ⟨rfl, b1⟩; have HB1 : Hid _ := b1; clear b1; have Q1 := put_nil w1)
      | (go_at_call 17; (with_reducible refine (PK1 _).mono ?_); clear PK1; rintro e w' ⟨n, hn, rfl, hw⟩; obtain rfl := hw.symm; obtain rfl : n = 0 := (by omega))
      | (go_at_call 17; (with_reducible refine (PK3 _).mono ?_); clear PK3; rintro e w' ⟨d, hd, rfl, hw⟩; obtain rfl := hw.symm; obtain rfl : d = 0 := (by omega))
      | (go_at_call 18; (with_reducible refine (Q1 _ _).mono ?_); clear Q1; rintro e w2 ⟨aA, LA, cA, rfl, HA2, b2⟩; have HB2 : Hid _ := HB1.out.trans (b2.mono HB1.out.size); clear b2; have MV := moved_nil none oo ca no co r w2 (HO.out.below HB2.out))
      | (go_at_call 19; (with_reducible refine MV.mono ?_); clear MV; rintro e w3 ⟨am, cm, rfl, b3⟩; have HB3 : Hid _ := HB2.out.trans (b3.mono HB2.out.size); have HA3 : Hid _ := HA2.out.below b3; clear b3; have Q3 := put_nil w3)
      | (go_at_call 18; (with_reducible refine (Q3 _ _).mono ?_); clear Q3; rintro e w4 ⟨aO, LO, cO, rfl, HO4, b4⟩; have HB4 : Hid _ := HB3.out.trans (b4.mono HB3.out.size); have HA4 : Hid _ := HA3.out.below b4; clear b4; have Q4 := put_nil w4)
      | (go_at_call 18; (with_reducible refine (Q4 _ _).mono ?_); clear Q4; rintro e w5 ⟨aX, LX, cX, rfl, HX5, b5⟩; have HB5 : Hid _ := HB4.out.trans (b5.mono HB4.out.size); have HA5 : Hid _ := HA4.out.below b5; have HO5 : Hid _ := HO4.out.below b5; clear b5; have Q5 := put_nil w5)
      | (go_at_call 18; (with_reducible refine (Q5 _ _).mono ?_); clear Q5; rintro e w6 ⟨aY, LY, cY, rfl, HY6, b6⟩; have HB6 : Hid _ := HB5.out.trans (b6.mono HB5.out.size); have HA6 : Hid _ := HA5.out.below b6; have HO6 : Hid _ := HO5.out.below b6; have HX6 : Hid _ := HX5.out.below b6; clear b6; have Q6 := put_nil w6)
      | (go_at_call 18; (with_reducible refine (Q6 _ _).mono ?_); clear Q6; rintro e w7 ⟨aZ, LZ, cZ, rfl, HZ7, b7⟩; have HB7 : Hid _ := HB6.out.trans (b7.mono HB6.out.size); have HA7 : Hid _ := HA6.out.below b7; have HO7 : Hid _ := HO6.out.below b7; have HX7 : Hid _ := HX6.out.below b7; have HY7 : Hid _ := HY6.out.below b7; clear b7; have M8 := merge_sk aX aY LX LY cX cY _ _ w7 HX7.out HY7.out)
      | (go_at_call 20; (with_reducible refine M8.mono ?_); clear M8; rintro e w8 ⟨aP, LP, cP, rfl, HP8, b8⟩; have HB8 : Hid _ := HB7.out.trans (b8.mono HB7.out.size); have HA8 : Hid _ := HA7.out.below b8; have HO8 : Hid _ := HO7.out.below b8; have HX8 : Hid _ := HX7.out.below b8; have HY8 : Hid _ := HY7.out.below b8; have HZ8 : Hid _ := HZ7.out.below b8; clear b8; have M9 := merge_sk aP aZ LP LZ cP cZ _ _ w8 HP8.out HZ8.out)
      | (go_at_call 20; (with_reducible refine M9.mono ?_); clear M9; rintro e w9 ⟨aL, LL, cL, rfl, HL9, b9⟩; have HB9 : Hid _ := HB8.out.trans (b9.mono HB8.out.size); have HA9 : Hid _ := HA8.out.below b9; have HO9 : Hid _ := HO8.out.below b9; have HX9 : Hid _ := HX8.out.below b9; have HY9 : Hid _ := HY8.out.below b9; have HZ9 : Hid _ := HZ8.out.below b9; have HP9 : Hid _ := HP8.out.below b9; clear b9; have M10 := merge_sk aY aZ LY LZ cY cZ _ _ w9 HY9.out HZ9.out)
      | (go_at_call 20; (with_reducible refine M10.mono ?_); clear M10; rintro e w10 ⟨aS, LS, cS, rfl, HS10, b10⟩; have HB10 : Hid _ := HB9.out.trans (b10.mono HB9.out.size); have HA10 : Hid _ := HA9.out.below b10; have HO10 : Hid _ := HO9.out.below b10; have HX10 : Hid _ := HX9.out.below b10; have HY10 : Hid _ := HY9.out.below b10; have HZ10 : Hid _ := HZ9.out.below b10; have HP10 : Hid _ := HP9.out.below b10; have HL10 : Hid _ := HL9.out.below b10; clear b10; have M11 := merge_sk aX aS LX LS cX cS _ _ w10 HX10.out HS10.out)
      | (go_at_call 20; (with_reducible refine M11.mono ?_); clear M11; rintro e w11 ⟨aR, LR, cR, rfl, HR11, b11⟩; have HB11 : Hid _ := HB10.out.trans (b11.mono HB10.out.size); have HA11 : Hid _ := HA10.out.below b11; have HO11 : Hid _ := HO10.out.below b11; have HX11 : Hid _ := HX10.out.below b11; have HY11 : Hid _ := HY10.out.below b11; have HP11 : Hid _ := HP10.out.below b11; have HL11 : Hid _ := HL10.out.below b11; clear b11; have M12 := merge_sk aY aX LY LX cY cX _ _ w11 HY11.out HX11.out)
      | (go_at_call 20; (with_reducible refine M12.mono ?_); clear M12; rintro e w12 ⟨aQ, LQ, cQ, rfl, HQ12, b12⟩; have HB12 : Hid _ := HB11.out.trans (b12.mono HB11.out.size); have HA12 : Hid _ := HA11.out.below b12; have HO12 : Hid _ := HO11.out.below b12; have HP12 : Hid _ := HP11.out.below b12; have HL12 : Hid _ := HL11.out.below b12; have HR12 : Hid _ := HR11.out.below b12; clear b12; have M13 := merge_sk aA none LA 0 cA 0 _ (fun _ => 0) w12 HA12.out (SkAt.nil w12))
      | (go_at_call 20; (with_reducible refine M13.mono ?_); clear M13; rintro e w13 ⟨aE, LE, cE, rfl, HE13, b13⟩; have HB13 : Hid _ := HB12.out.trans (b13.mono HB12.out.size); have HA13 : Hid _ := HA12.out.below b13; have HO13 : Hid _ := HO12.out.below b13; have HP13 : Hid _ := HP12.out.below b13; have HL13 : Hid _ := HL12.out.below b13; have HR13 : Hid _ := HR12.out.below b13; have HQ13 : Hid _ := HQ12.out.below b13; clear b13; have CK := check_sk aL LL cL _ w13 HL13.out)
      | (go_at_call 21; (with_reducible refine CK.mono ?_); clear CK; rintro e w14 ⟨rfl, b14⟩; have HB14 : Hid _ := HB13.out.trans (b14.mono HB13.out.size); have HA14 : Hid _ := HA13.out.below b14; have HO14 : Hid _ := HO13.out.below b14; have HP14 : Hid _ := HP13.out.below b14; have HL14 : Hid _ := HL13.out.below b14; have HR14 : Hid _ := HR13.out.below b14; have HQ14 : Hid _ := HQ13.out.below b14; have HE14 : Hid _ := HE13.out.below b14; clear b14; have q0 : ∃ q, w14 = w14.drewN q := ⟨0, rfl⟩; have S1 := same_at HA14.out HO14.out cA cO (fun i hi => rfl); have S2 := same_at HA14.out HL14.out cA cL (fun i hi => eqL [] 0 0 i); have S3 := same_at HA14.out HR14.out cA cR (fun i hi => eqR [] 0 0 i); have S4 := same_at HP14.out HQ14.out cP cQ (fun i hi => eqP _ _ i); have S5 := same_at HA14.out HE14.out cA cE (fun i hi => eqE [] i))
      | (go_at_call 22; (with_reducible refine (S1 _ q0).mono ?_); clear S1; rintro e v1 ⟨rfl, q1⟩)
      | (go_at_call 22; (with_reducible refine (S2 _ q1).mono ?_); clear S2; rintro e v2 ⟨rfl, q2⟩)
      | (go_at_call 22; (with_reducible refine (S3 _ q2).mono ?_); clear S3; rintro e v3 ⟨rfl, q3⟩)
      | (go_at_call 22; (with_reducible refine (S4 _ q3).mono ?_); clear S4; rintro e v4 ⟨rfl, q4⟩)
      | (go_at_call 22; (with_reducible refine (S5 _ q4).mono ?_); clear S5; rintro e v5 ⟨rfl, q5⟩))
    all_goals go_ret
    all_goals (obtain ⟨q, rfl⟩ := q5; exact ⟨rfl, below_drewN HB14.out HB14.out.size q⟩)
  | some a =>
    go_enter Try.func6, Try.ntmps6
    go_wp2_with (first
      | (go_at_call 9; (with_reducible refine AW.mono ?_); clear AW; rintro e w1 ⟨rfl, b1⟩; have HB1 : Hid _ := b1; clear b1; have Q1 := put_nil w1)
      | (go_at_call 17; (with_reducible refine (PK1 _).mono ?_); clear PK1; rintro e w' ⟨n, hn, rfl, hw⟩; obtain rfl := hw.symm; obtain rfl : n = 0 := (by omega))
      | (go_at_call 17; (with_reducible refine (PK3 _).mono ?_); clear PK3; rintro e w' ⟨d, hd, rfl, hw⟩; obtain rfl := hw.symm; obtain rfl : d = 0 := (by omega))
      | (go_at_call 18; (with_reducible refine (Q1 _ _).mono ?_); clear Q1; rintro e w2 ⟨aA, LA, cA, rfl, HA2, b2⟩; have HB2 : Hid _ := HB1.out.trans (b2.mono HB1.out.size); clear b2; have MV := moved_nil (some a) oo ca no co r w2 (HO.out.below HB2.out))
      | (go_at_call 19; (with_reducible refine MV.mono ?_); clear MV; rintro e w3 ⟨am, cm, rfl, b3⟩; have HB3 : Hid _ := HB2.out.trans (b3.mono HB2.out.size); have HA3 : Hid _ := HA2.out.below b3; clear b3; have Q3 := put_nil w3)
      | (go_at_call 18; (with_reducible refine (Q3 _ _).mono ?_); clear Q3; rintro e w4 ⟨aO, LO, cO, rfl, HO4, b4⟩; have HB4 : Hid _ := HB3.out.trans (b4.mono HB3.out.size); have HA4 : Hid _ := HA3.out.below b4; clear b4; have Q4 := put_nil w4)
      | (go_at_call 18; (with_reducible refine (Q4 _ _).mono ?_); clear Q4; rintro e w5 ⟨aX, LX, cX, rfl, HX5, b5⟩; have HB5 : Hid _ := HB4.out.trans (b5.mono HB4.out.size); have HA5 : Hid _ := HA4.out.below b5; have HO5 : Hid _ := HO4.out.below b5; clear b5; have Q5 := put_nil w5)
      | (go_at_call 18; (with_reducible refine (Q5 _ _).mono ?_); clear Q5; rintro e w6 ⟨aY, LY, cY, rfl, HY6, b6⟩; have HB6 : Hid _ := HB5.out.trans (b6.mono HB5.out.size); have HA6 : Hid _ := HA5.out.below b6; have HO6 : Hid _ := HO5.out.below b6; have HX6 : Hid _ := HX5.out.below b6; clear b6; have Q6 := put_nil w6)
      | (go_at_call 18; (with_reducible refine (Q6 _ _).mono ?_); clear Q6; rintro e w7 ⟨aZ, LZ, cZ, rfl, HZ7, b7⟩; have HB7 : Hid _ := HB6.out.trans (b7.mono HB6.out.size); have HA7 : Hid _ := HA6.out.below b7; have HO7 : Hid _ := HO6.out.below b7; have HX7 : Hid _ := HX6.out.below b7; have HY7 : Hid _ := HY6.out.below b7; clear b7; have M8 := merge_sk aX aY LX LY cX cY _ _ w7 HX7.out HY7.out)
      | (go_at_call 20; (with_reducible refine M8.mono ?_); clear M8; rintro e w8 ⟨aP, LP, cP, rfl, HP8, b8⟩; have HB8 : Hid _ := HB7.out.trans (b8.mono HB7.out.size); have HA8 : Hid _ := HA7.out.below b8; have HO8 : Hid _ := HO7.out.below b8; have HX8 : Hid _ := HX7.out.below b8; have HY8 : Hid _ := HY7.out.below b8; have HZ8 : Hid _ := HZ7.out.below b8; clear b8; have M9 := merge_sk aP aZ LP LZ cP cZ _ _ w8 HP8.out HZ8.out)
      | (go_at_call 20; (with_reducible refine M9.mono ?_); clear M9; rintro e w9 ⟨aL, LL, cL, rfl, HL9, b9⟩; have HB9 : Hid _ := HB8.out.trans (b9.mono HB8.out.size); have HA9 : Hid _ := HA8.out.below b9; have HO9 : Hid _ := HO8.out.below b9; have HX9 : Hid _ := HX8.out.below b9; have HY9 : Hid _ := HY8.out.below b9; have HZ9 : Hid _ := HZ8.out.below b9; have HP9 : Hid _ := HP8.out.below b9; clear b9; have M10 := merge_sk aY aZ LY LZ cY cZ _ _ w9 HY9.out HZ9.out)
      | (go_at_call 20; (with_reducible refine M10.mono ?_); clear M10; rintro e w10 ⟨aS, LS, cS, rfl, HS10, b10⟩; have HB10 : Hid _ := HB9.out.trans (b10.mono HB9.out.size); have HA10 : Hid _ := HA9.out.below b10; have HO10 : Hid _ := HO9.out.below b10; have HX10 : Hid _ := HX9.out.below b10; have HY10 : Hid _ := HY9.out.below b10; have HZ10 : Hid _ := HZ9.out.below b10; have HP10 : Hid _ := HP9.out.below b10; have HL10 : Hid _ := HL9.out.below b10; clear b10; have M11 := merge_sk aX aS LX LS cX cS _ _ w10 HX10.out HS10.out)
      | (go_at_call 20; (with_reducible refine M11.mono ?_); clear M11; rintro e w11 ⟨aR, LR, cR, rfl, HR11, b11⟩; have HB11 : Hid _ := HB10.out.trans (b11.mono HB10.out.size); have HA11 : Hid _ := HA10.out.below b11; have HO11 : Hid _ := HO10.out.below b11; have HX11 : Hid _ := HX10.out.below b11; have HY11 : Hid _ := HY10.out.below b11; have HP11 : Hid _ := HP10.out.below b11; have HL11 : Hid _ := HL10.out.below b11; clear b11; have M12 := merge_sk aY aX LY LX cY cX _ _ w11 HY11.out HX11.out)
      | (go_at_call 20; (with_reducible refine M12.mono ?_); clear M12; rintro e w12 ⟨aQ, LQ, cQ, rfl, HQ12, b12⟩; have HB12 : Hid _ := HB11.out.trans (b12.mono HB11.out.size); have HA12 : Hid _ := HA11.out.below b12; have HO12 : Hid _ := HO11.out.below b12; have HP12 : Hid _ := HP11.out.below b12; have HL12 : Hid _ := HL11.out.below b12; have HR12 : Hid _ := HR11.out.below b12; clear b12; have M13 := merge_sk aA none LA 0 cA 0 _ (fun _ => 0) w12 HA12.out (SkAt.nil w12))
      | (go_at_call 20; (with_reducible refine M13.mono ?_); clear M13; rintro e w13 ⟨aE, LE, cE, rfl, HE13, b13⟩; have HB13 : Hid _ := HB12.out.trans (b13.mono HB12.out.size); have HA13 : Hid _ := HA12.out.below b13; have HO13 : Hid _ := HO12.out.below b13; have HP13 : Hid _ := HP12.out.below b13; have HL13 : Hid _ := HL12.out.below b13; have HR13 : Hid _ := HR12.out.below b13; have HQ13 : Hid _ := HQ12.out.below b13; clear b13; have CK := check_sk aL LL cL _ w13 HL13.out)
      | (go_at_call 21; (with_reducible refine CK.mono ?_); clear CK; rintro e w14 ⟨rfl, b14⟩; have HB14 : Hid _ := HB13.out.trans (b14.mono HB13.out.size); have HA14 : Hid _ := HA13.out.below b14; have HO14 : Hid _ := HO13.out.below b14; have HP14 : Hid _ := HP13.out.below b14; have HL14 : Hid _ := HL13.out.below b14; have HR14 : Hid _ := HR13.out.below b14; have HQ14 : Hid _ := HQ13.out.below b14; have HE14 : Hid _ := HE13.out.below b14; clear b14; have q0 : ∃ q, w14 = w14.drewN q := ⟨0, rfl⟩; have S1 := same_at HA14.out HO14.out cA cO (fun i hi => rfl); have S2 := same_at HA14.out HL14.out cA cL (fun i hi => eqL [] 0 0 i); have S3 := same_at HA14.out HR14.out cA cR (fun i hi => eqR [] 0 0 i); have S4 := same_at HP14.out HQ14.out cP cQ (fun i hi => eqP _ _ i); have S5 := same_at HA14.out HE14.out cA cE (fun i hi => eqE [] i))
      | (go_at_call 22; (with_reducible refine (S1 _ q0).mono ?_); clear S1; rintro e v1 ⟨rfl, q1⟩)
      | (go_at_call 22; (with_reducible refine (S2 _ q1).mono ?_); clear S2; rintro e v2 ⟨rfl, q2⟩)
      | (go_at_call 22; (with_reducible refine (S3 _ q2).mono ?_); clear S3; rintro e v3 ⟨rfl, q3⟩)
      | (go_at_call 22; (with_reducible refine (S4 _ q3).mono ?_); clear S4; rintro e v4 ⟨rfl, q4⟩)
      | (go_at_call 22; (with_reducible refine (S5 _ q4).mono ?_); clear S5; rintro e v5 ⟨rfl, q5⟩))
    all_goals go_ret
    all_goals (obtain ⟨q, rfl⟩ := q5; exact ⟨rfl, below_drewN HB14.out HB14.out.size q⟩)
theorem sketchSums_any (ad oo : Option Addr) (N ca no co : Nat) (l : List (Nat × Nat)) (r : List Int) (one two : Int) (w : World) (hP : PutAt w ad N l) (hO : NumAt .i64 w oo no r) (hca : N ≤ ca)
    (o : -9223372036854775808 ≤ one ∧ one ≤ 9223372036854775807) (t : -9223372036854775808 ≤ two ∧ two ≤ 9223372036854775807) :
    Calls Try.prog 6 #[.slice ad N ca, .slice oo no co, .int .i64 one, .int .i64 two] w fun e w' => e = .returned (.bool true) ∧ Below w.heap.size w w' := by
  by_cases hN : 0 < N
  · obtain ⟨b, off, rfl, _⟩ := hP.lies hN
    exact sketchSums_some b off oo N ca no co l r one two w hP hO hN hca o.1 o.2 t.1 t.2
  · obtain rfl : N = 0 := by omega
    exact sketchSums_none ad oo ca no co r one two w hO o.1 o.2 t.1 t.2
end Go.Proofs.Ytefnbljgfealbaa.sk
