/-
  Layer 13: sorted.
-/
import Derived.Test.YtefnbljgfealbaaSkX
namespace Go.Proofs.Ytefnbljgfealbaa.sk
open Go.RowKit
set_option maxRecDepth 100000

def u64C (S : List Nat) : List Value := S.map fun x : Nat => .int .u64 (x : Int)
theorem infoU64 : (Try.prog.info? 29).map (fun i => (i.zero, i.size, i.bytes)) = some (some (.int .u64 0), 1, 8) := by kernel_rfl
/-- One put in at a place. -/
def ins (S : List Nat) (k v : Nat) : List Nat := S.take k ++ v :: S.drop k
theorem ins_len (S : List Nat) (k v : Nat) : (ins S k v).length = S.length + 1 := by
  unfold ins
  rw [List.length_append, List.length_cons, List.length_take, List.length_drop]
  omega
theorem ins_end (S : List Nat) (v : Nat) : ins S S.length v = S ++ [v] := by
  unfold ins
  rw [List.take_length, List.drop_length]
theorem ins_set {S : List Nat} {k : Nat} (hk : k ≤ S.length) (h v : Nat) : (ins S k h).set k v = ins S k v := by
  unfold ins
  have : (S.take k).length = k := by rw [List.length_take]; omega
  rw [List.set_append_right _ _ (by omega), this, Nat.sub_self]
  rfl
theorem ins_shift {S : List Nat} {p : Nat} (hp : p < S.length) : ins S (p + 1) S[p] = ins S p S[p] := by
  unfold ins
  rw [List.take_succ_eq_append_getElem hp, List.append_assoc, List.drop_eq_getElem_cons hp]
  rfl
theorem ins_at {S : List Nat} {k : Nat} (hk : k ≤ S.length) {p : Nat} (hp : p < k) (h : Nat) : (ins S k h)[p]? = some (S[p]'(by omega)) := by
  unfold ins
  have : (S.take k).length = k := by rw [List.length_take]; omega
  rw [List.getElem?_append_left (by omega), List.getElem?_take_of_lt hp, List.getElem?_eq_getElem (by omega)]
theorem ins_sorted {S : List Nat} (hs : S.Pairwise (· ≤ ·)) {k v : Nat} (h1 : ∀ x ∈ S.take k, x ≤ v) (h2 : ∀ x ∈ S.drop k, v ≤ x) : (ins S k v).Pairwise (· ≤ ·) := by
  unfold ins
  have hs' := hs
  rw [← List.take_append_drop k S, List.pairwise_append] at hs'
  rw [List.pairwise_append]
  refine ⟨hs'.1, List.pairwise_cons.mpr ⟨h2, hs'.2.1⟩, ?_⟩
  intro x hx y hy
  rcases List.mem_cons.mp hy with rfl | hy
  · exact h1 x hx
  · exact Nat.le_trans (h1 x hx) (h2 y hy)
theorem ins_perm (S : List Nat) (k v : Nat) : (S ++ [v]).Perm (ins S k v) := by
  unfold ins
  refine List.Perm.trans ?_ List.perm_middle.symm
  rw [List.take_append_drop]
  exact List.perm_append_singleton v S
theorem low_sorted {S : List Nat} (hs : S.Pairwise (· ≤ ·)) {k v : Nat} (hk : k < S.length) (h : S[k] ≤ v) : ∀ x ∈ S.take (k + 1), x ≤ v := by
  intro x hx
  obtain ⟨j, hj, rfl⟩ := List.mem_iff_getElem.mp hx
  rw [List.getElem_take]
  have hj' : j < k + 1 := by simp at hj; omega
  rcases Nat.lt_or_ge j k with h1 | h1
  · exact Nat.le_trans (List.pairwise_iff_getElem.mp hs j k _ hk h1) h
  · have : j = k := by omega
    subst this
    exact h
theorem drop_more {S : List Nat} {p v : Nat} (hp : p < S.length) (h : v < S[p]) (hd : ∀ x ∈ S.drop (p + 1), v < x) : ∀ x ∈ S.drop p, v < x := by
  rw [List.drop_eq_getElem_cons hp]
  intro x hx
  rcases List.mem_cons.mp hx with rfl | hx
  · exact h
  · exact hd x hx
theorem u64C_set (S : List Nat) (k v : Nat) : (u64C S).set k (.int .u64 (v : Int)) = u64C (S.set k v) := by unfold u64C; rw [List.map_set]
/-- A row of numbers of one's own. -/
def OwnU (base : Nat) (w : World) (v : Value) (S : List Nat) : Prop := w.ownsRow base 29 1 v S.length (u64C S)
def SortP (V : List Nat) (w : World) (e : Ending) (w' : World) : Prop := ∃ v S, e = .returned v ∧ Hid (OwnU w.heap.size w' v S ∧ V.Perm S ∧ S.Pairwise (· ≤ ·)) ∧ Below w.heap.size w w'
theorem own_cellU {base : Nat} {w : World} {g n cap m : Nat} {S : List Nat} (h : w.ownsRow base 29 1 (.slice (some ⟨g, 0, none⟩) n cap) m (u64C S)) (j : Nat) (hj : j < S.length) : w.cell? ⟨g, j, none⟩ = some (.int .u64 (S[j] : Int)) := by
  have := h.cells (g := g) rfl j (.int .u64 (S[j] : Int)) (by unfold u64C; rw [List.getElem?_map, List.getElem?_eq_getElem hj]; rfl)
  rw [Addr.add_lit, Nat.zero_add] at this
  exact this
/-- Numbers of 64 bits lie here. -/
structure U64At (w : World) (ad : Option Addr) (n : Nat) (V : List Nat) : Prop where
  len : V.length = n
  lies : 0 < n → ∃ b off, ad = some ⟨b, off, none⟩ ∧ ∀ i (_ : i < V.length), w.cell? ⟨b, off + i, none⟩ = some (.int .u64 (V[i] : Int))
  bin : ∀ v ∈ V, v < 18446744073709551616
theorem U64At.below {w w' : World} {ad : Option Addr} {n : Nat} {V : List Nat} (h : U64At w ad n V) (hb : Below w.heap.size w w') : U64At w' ad n V := by
  refine ⟨h.len, fun hp => ?_, h.bin⟩
  obtain ⟨b, off, ha, hc⟩ := h.lies hp
  exact ⟨b, off, ha, fun i hi => cell_upd (Upd.ofBelow (S := fun _ => False) hb (fun k hk hk' => by omega)) (hc i hi) (fun h => h)⟩
theorem U64At.of {w : World} {ad : Option Addr} {n : Nat} {M : List Int} (h : NumAt .u64 w ad n M) : ∃ V, U64At w ad n V := by
  refine ⟨M.map Int.toNat, by rw [List.length_map]; exact h.len, fun hp => ?_, ?_⟩
  · obtain ⟨b, off, ha, hc⟩ := h.lies hp
    refine ⟨b, off, ha, fun i hi => ?_⟩
    have hi' : i < M.length := by simpa using hi
    have hb := bounds_u64 (h.bin M[i] (List.getElem_mem hi'))
    rw [List.getElem_map, Int.toNat_of_nonneg hb.1]
    exact hc i hi'
  · intro v hv
    obtain ⟨x, hx, rfl⟩ := List.mem_map.mp hv
    have := bounds_u64 (h.bin x hx)
    omega
set_option maxHeartbeats 4000000 in
theorem sorted_any (ad : Option Addr) (n c : Nat) (V : List Nat) (w : World) (hV : U64At w ad n V) (hn : n ≤ 2147483647) :
    Calls Try.prog 27 #[.slice ad n c] w (SortP V w) := by
  obtain ⟨i0, hi, hz0, hz1, hz2⟩ := info_parts infoU64
  have HL : Hid (V.length = n) := hV.len
  have HV : Hid _ := hV
  clear hV
  have hn' : (n : Int) ≤ 2147483647 := by omega
  go_enter Try.func27, Try.ntmps27
  go_wp2
  go_loopw [3, 4] (fun a t wr => ∃ (i : Nat) (S : List Nat), t = .int .i64 i ∧ i ≤ n ∧ Hid (OwnU w.heap.size wr a S ∧ (V.take i).Perm S ∧ S.Pairwise (· ≤ ·)) ∧ Hid (Below w.heap.size w wr)) (fun _ t _ => n - (intOf t).toNat)
  case atStart => exact ⟨0, [], rfl, by omega, ⟨World.ownsRow_nil _ _ _ _, List.Perm.refl _, List.Pairwise.nil⟩, Below.refl _ _⟩
  case round =>
    obtain ⟨i, S, rfl, hin, HS, HB⟩ := hrel
    obtain ⟨ao, L, cc, rfl⟩ := row_shape HS.out.1
    obtain ⟨hL, -, -⟩ := own_cap HS.out.1
    have hSi : S.length = i := by rw [← HS.out.2.1.length_eq, List.length_take, HL.out]; omega
    rw [hSi] at hL
    subst hL
    by_cases hlt : L < n
    · obtain ⟨b, off, rfl, hc⟩ := (HV.out.below HB.out).lies (by omega)
      have hkl : L < V.length := by rw [HL.out]; exact hlt
      have c0 := hc L hkl
      have hblt := World.block_lt_of_cell? wr _ c0
      simp only at hblt
      have HT : Hid _ := List.take_succ_eq_append_getElem hkl
      generalize V[L] = x at c0 HT
      clear hc hkl
      have OW : (wr.alloc (.cells #[.int .u64 0] 29)).ownsRow w.heap.size 29 1 (.slice ao L cc) L (u64C S) := by
        have := ownsRow_upd HS.out.1 ((Upd.refl (fun _ => False) wr).alloc (.cells #[.int .u64 0] 29)) (fun _ _ h => h)
        rw [hSi] at this
        exact this
      have SR : Src Try.prog 1 54 (.slice (some ⟨wr.heap.size, 0, none⟩) 1 1) 1 [.int .u64 0] (wr.alloc (.cells #[.int .u64 0] 29)) := by
        refine Src.ofSlice _ Try.underlying54 _ 1 1 _ rfl ?_ ?_
        · intro j u hj
          match j, hj with
          | 0, hj => simp at hj; subst hj; simp [Addr.add]
        · intro u hu; simp at hu; subst hu; rfl
      have hsz := HB.out.size
      have hbo : ∀ k, (Value.slice ao L cc).ownBlock = some k → w.heap.size ≤ k := fun k hk => (own_block HS.out.1 hk).1
      have HBO : Hid _ := hbo
      clear hbo
      go_wp2_with (at_builtin; refine wpList_app _ rfl _ _ 54 54 rfl w.heap.size 29 i0 (.int .u64 0) 8 Try.underlying54 hi hz0 hz1 hz2 rfl (.slice ao L cc) L (u64C S) rfl OW _ 1 [.int .u64 0] rfl SR (by unfold maxLen; omega) (by omega) (by simp; omega) ?_; clear OW SR; intro v1 w1 o1 g1 m1)
      obtain ⟨g, cap, rfl, -, -, hgw, -⟩ := own_some o1 (by omega)
      have hB1 : Below w.heap.size w w1 := (((Upd.ofBelow (S := fun k => w.heap.size ≤ k) HB.out (fun _ _ h => h)).alloc (.cells #[.int .u64 0] 29)).grown g1 (fun k _ e => HBO.out k e)).below (Nat.le_refl _) (fun k hk h => by omega)
      have hbw : b < w.heap.size := by
        obtain ⟨b', off', eb, hc'⟩ := HV.out.lies (by omega)
        injection eb with eb
        injection eb with eb1 eb2 eb3
        subst eb1
        exact World.block_lt_of_cell? w _ (hc' 0 (by rw [HL.out]; omega))
      have cl : ∀ W, Below w.heap.size w W → W.cell? ⟨b, off + L, none⟩ = some (.int .u64 (x : Int)) := fun W hW => by
        have h1 : w.cell? ⟨b, off + L, none⟩ = some (.int .u64 (x : Int)) := (HB.out.cell (p := ⟨b, off + L, none⟩) hbw).symm.trans c0
        exact (hW.cell (p := ⟨b, off + L, none⟩) hbw).trans h1
      have HCL : Hid _ := cl
      have HR1 : Hid (w1.ownsRow w.heap.size 29 1 (.slice (some ⟨g, 0, none⟩) (L + 1) cap) (L + 1) (u64C (ins S L 0))) := by
        show World.ownsRow _ _ _ _ _ _ _
        rw [← hSi, ins_end, hSi]
        have e : u64C (S ++ [0]) = u64C S ++ [.int .u64 0] := by unfold u64C; rw [List.map_append]; rfl
        rw [e]
        exact o1
      have HB1 : Hid _ := hB1
      clear cl o1 g1 m1 hB1 c0 HBO hblt hsz
      have hL1 : (L : Int) + 1 ≤ 2147483648 := by omega
      go_loopw [5] (fun t wz => ∃ (k h : Nat), t = .int .i64 k ∧ k ≤ L ∧ Hid (wz.ownsRow w.heap.size 29 1 (.slice (some ⟨g, 0, none⟩) (L + 1) cap) (L + 1) (u64C (ins S k h))) ∧ Hid (∀ y ∈ S.drop k, x < y) ∧ Hid (Below w.heap.size w wz)) (fun t _ => (intOf t).toNat)
      case atStart => exact ⟨L, 0, rfl, Nat.le_refl _, HR1, (fun y hy => by rw [List.drop_eq_nil_of_le (by omega)] at hy; cases hy), HB1⟩
      case round =>
        obtain ⟨k, h, rfl, hkL, HR, HD, HBz⟩ := hrel
        by_cases hk0 : k = 0
        · subst hk0
          have c0' := HCL.out wr HBz.out
          go_wp2
          go_quiet (fail)
          obtain ⟨w5, hw5⟩ : ∃ W, wr.drewN nq = W := ⟨_, rfl⟩
          rw [hw5]
          have HR5 : Hid (w5.ownsRow w.heap.size 29 1 (.slice (some ⟨g, 0, none⟩) (L + 1) cap) (L + 1) (u64C (ins S 0 h))) := by
            show World.ownsRow _ _ _ _ _ _ _
            rw [← hw5]
            exact ownsRow_upd HR.out ((Upd.refl (fun _ => False) wr).drewN nq) (fun _ _ h => h)
          have HB5 : Hid (Below w.heap.size w w5) := by
            show Below _ _ _
            rw [← hw5]
            exact below_drewN HBz.out HBz.out.size nq
          have z0 := own_cellU HR5.out 0 (by rw [ins_len]; omega)
          have z1 := own_free HR5.out 0
          have z2 := HCL.out w5 HB5.out
          generalize (ins S 0 h)[0]'(by rw [ins_len]; omega) = hh at z0
          clear hw5 c0'
          go_wp2
          go_roundw
          case rel =>
            refine ⟨L + 1, ins S 0 x, by go_num, by omega, ⟨?_, ?_, ?_⟩, HB5.out.setCell hgw _⟩
            · have h1 := ownsRow_set HR5.out 0 (.int .u64 (x : Int))
              rw [u64C_set, ins_set (by omega)] at h1
              unfold OwnU
              rw [ins_len, hSi]
              exact h1
            · rw [HT.out]
              exact (HS.out.2.1.append_right [x]).trans (ins_perm S 0 x)
            · exact ins_sorted HS.out.2.2 (fun y hy => by rw [List.take_zero] at hy; cases hy) (fun y hy => Nat.le_of_lt (HD.out y hy))
          case measure => simp [intOf]; omega
        · obtain ⟨p, hp⟩ : ∃ p, k = p + 1 := ⟨k - 1, by omega⟩
          have hpS : p < S.length := by omega
          have x0 := own_cellU HR.out p (by rw [ins_len]; omega)
          have x1 := own_free HR.out k
          have xk := own_cellU HR.out k (by rw [ins_len]; omega)
          have e0 : (ins S k h)[p]'(by rw [ins_len]; omega) = S[p] := by
            have := ins_at (S := S) (k := k) (by omega) (p := p) (by omega) h
            rw [List.getElem?_eq_getElem (by rw [ins_len]; omega)] at this
            injection this
          rw [e0] at x0
          have HSH : Hid (ins S (p + 1) S[p] = ins S p S[p]) := ins_shift hpS
          have HLO : Hid (S[p] ≤ x → ∀ y ∈ S.take (p + 1), y ≤ x) := low_sorted HS.out.2.2 hpS
          have HDM : Hid (x < S[p] → ∀ y ∈ S.drop p, x < y) := fun h1 => drop_more hpS h1 (by rw [← hp]; exact HD.out)
          generalize (ins S k h)[k]'(by rw [ins_len]; omega) = hk at xk
          have c0' := HCL.out wr HBz.out
          generalize hsp : S[p] = sp at x0 HSH HLO HDM
          clear e0
          have hkp : (k : Int) - 1 = (p : Int) := by omega
          have hk1 : (0 : Int) < (k : Int) := by omega
          have hpL : (p : Int) < (L : Int) + 1 := by omega
          have hp0 : (0 : Int) ≤ (p : Int) := by omega
          have hkL2 : (k : Int) < (L : Int) + 1 := by omega
          have hwp : IntKind.i64.wrap (p : Int) = (p : Int) := by simp [IntKind.wrap, IntKind.bits, IntKind.signed]; omega
          have hdk : decide (0 < k) = true := decide_eq_true (by omega)
          have HP : Hid (k = p + 1) := hp
          clear hp hk0 hsp
          by_cases hgt : x < sp
          · have hgt' : (x : Int) < (sp : Int) := by omega
            have hg1 : decide (x < sp) = true := decide_eq_true hgt
            have HD' : Hid _ := HDM.out hgt
            clear HDM HLO hgt
            go_wp2
            go_quiet (fail)
            obtain ⟨w5, hw5⟩ : ∃ W, wr.drewN nq = W := ⟨_, rfl⟩
            rw [hw5]
            have HR5 : Hid (w5.ownsRow w.heap.size 29 1 (.slice (some ⟨g, 0, none⟩) (L + 1) cap) (L + 1) (u64C (ins S k h))) := by
              show World.ownsRow _ _ _ _ _ _ _
              rw [← hw5]
              exact ownsRow_upd HR.out ((Upd.refl (fun _ => False) wr).drewN nq) (fun _ _ h => h)
            have HB5 : Hid (Below w.heap.size w w5) := by
              show Below _ _ _
              rw [← hw5]
              exact below_drewN HBz.out HBz.out.size nq
            have z0 : w5.cell? ⟨g, p, none⟩ = some (.int .u64 (sp : Int)) := by rw [← hw5]; exact x0
            have zk : w5.cell? ⟨g, k, none⟩ = some (.int .u64 (hk : Int)) := by rw [← hw5]; exact xk
            have z1 := own_free HR5.out k
            clear hw5 c0' x0 x1 xk
            go_wp2
            go_roundw
            case rel =>
              refine ⟨p, sp, rfl, by omega, ?_, HD', HB5.out.setCell hgw _⟩
              have h1 := ownsRow_set HR5.out k (.int .u64 (sp : Int))
              rw [u64C_set, ins_set (by omega)] at h1
              rw [HP.out] at h1
              rw [HSH.out] at h1
              have e := HP.out
              show World.ownsRow _ _ _ _ _ _ _
              rw [e]
              exact h1
            case measure => simp [intOf]; omega
          · have hgt' : ¬ (x : Int) < (sp : Int) := by omega
            have hg1 : decide (x < sp) = false := decide_eq_false hgt
            have HLW : Hid _ := HLO.out (by omega)
            clear HDM HLO hgt
            go_wp2
            go_quiet (fail)
            obtain ⟨w5, hw5⟩ : ∃ W, wr.drewN nq = W := ⟨_, rfl⟩
            rw [hw5]
            have HR5 : Hid (w5.ownsRow w.heap.size 29 1 (.slice (some ⟨g, 0, none⟩) (L + 1) cap) (L + 1) (u64C (ins S k h))) := by
              show World.ownsRow _ _ _ _ _ _ _
              rw [← hw5]
              exact ownsRow_upd HR.out ((Upd.refl (fun _ => False) wr).drewN nq) (fun _ _ h => h)
            have HB5 : Hid (Below w.heap.size w w5) := by
              show Below _ _ _
              rw [← hw5]
              exact below_drewN HBz.out HBz.out.size nq
            have z0 := own_cellU HR5.out k (by rw [ins_len]; omega)
            have z1 := own_free HR5.out k
            have z2 := HCL.out w5 HB5.out
            generalize (ins S k h)[k]'(by rw [ins_len]; omega) = hh at z0
            clear hw5 c0' x0 x1 xk
            go_wp2
            go_roundw
            case rel =>
              refine ⟨L + 1, ins S k x, by go_num, by omega, ⟨?_, ?_, ?_⟩, HB5.out.setCell hgw _⟩
              · have h1 := ownsRow_set HR5.out k (.int .u64 (x : Int))
                rw [u64C_set, ins_set (by omega)] at h1
                unfold OwnU
                rw [ins_len, hSi]
                exact h1
              · rw [HT.out]
                exact (HS.out.2.1.append_right [x]).trans (ins_perm S k x)
              · exact ins_sorted HS.out.2.2 (by rw [HP.out]; exact HLW.out) (fun y hy => Nat.le_of_lt (HD.out y hy))
            case measure => simp [intOf]; omega
    · have HE : Hid (SortP V w (.returned (.slice ao L cc)) wr) := by
        have hp := HS.out.2.1
        rw [List.take_of_length_le (by rw [HL.out]; omega)] at hp
        exact ⟨_, S, rfl, ⟨HS.out.1, hp, HS.out.2.2⟩, HB.out⟩
      have hlt' : ¬ (L : Int) < (n : Int) := by omega
      clear hSi
      go_wp2
      go_ret
      exact HE.out
end Go.Proofs.Ytefnbljgfealbaa.sk
