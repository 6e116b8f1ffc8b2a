/-
  Layer 6, the law's own: grown, over families of rows that are full of marks.
-/
import Derived.Test.YtakannfkbmnlfaaVK
namespace Go.Proofs.Ytakannfkbmnlfaa
open Go.Shelf Go.RowKit Go.Lib
set_option maxRecDepth 100000

/-- The mark of a list's number. -/
def mkI (i : Nat) : List Value := ivC ((i : Int) + 1, -((i : Int) + 1))
theorem mkI_eq {i : Nat} {m : Int} (h : m = (i : Int) + 1) : mkI i = [.int .i64 m, .int .i64 (-m)] := by subst h; rfl
theorem marks_iv (x : Int × Int) : ∀ n, marks (ivC x) n = (List.replicate n x).flatMap ivC
  | 0 => rfl
  | n + 1 => by
    have h := marks_iv x n
    unfold marks at h ⊢
    rw [List.replicate_succ, List.replicate_succ, List.flatten_cons, List.flatMap_cons, h]
theorem full_own {base : Nat} {w : World} {v : Value} {i : Nat} (h : Full base 35 (mkI i) w v) {ao : Option Addr} {l c : Nat} (hv : v = .slice ao l c) : OwnI base w v (List.replicate l ((i : Int) + 1, -((i : Int) + 1))) := by
  subst hv
  obtain ⟨n, ho⟩ := h
  obtain rfl : l = n := (own_cap ho).1
  unfold OwnI
  rw [List.length_replicate, ← marks_iv]
  exact ho
theorem own_full {base : Nat} {w : World} {v : Value} {i n : Nat} (h : OwnI base w v (List.replicate n ((i : Int) + 1, -((i : Int) + 1)))) : Full base 35 (mkI i) w v := by
  unfold OwnI at h
  rw [List.length_replicate, ← marks_iv] at h
  exact ⟨n, h⟩
abbrev FamI (base : Nat) (w : World) (fam : Nat → Value → Prop) : Prop := Fams base 35 mkI w fam
/-- One mark more behind one of the rows, in a walk. -/
theorem wpList_appF {ops : Array Oper} {rest : List Oper} {o : Oper} {a : Act} {Q : Exit → Act → World → Prop} (w : World) (hgd : o.guard = none) (s x : Operand)
    (ho : o.op = .call { callee := .builtin .append, args := #[s, x], argTypes := #[22, 22] })
    (base : Nat) (fam : Nat → Value → Prop) (i n : Nat) (m : Int) (hmi : m = (i : Int) + 1) (g : Value) (hF : FamI base w fam) (hm : fam i g) (hown : OwnI base w g (List.replicate n ((i : Int) + 1, -((i : Int) + 1)))) (hv : a.eval s = g) (hx : a.eval x = .slice (some ⟨w.heap.size, 0, none⟩) 1 1) (hlen : n ≤ 1099511627776) (hbase : base ≤ w.heap.size)
    (h : ∀ v' w', FamI base w' (plus i v' fam) → OwnI base w' v' (List.replicate (n + 1) ((i : Int) + 1, -((i : Int) + 1))) → Upd (fun k => g.ownBlock = some k) w w' → Moved w g v' → wpList Try.prog ops Q rest (a.put o.dst v') w') : wpList Try.prog ops Q (o :: rest) a (w.alloc (.cells #[.int .i64 m, .int .i64 (-m)] 35)) := by
  subst hmi
  obtain ⟨i0, hi0, hz0, hz1, hz2⟩ := info_parts Try.info35
  have u1 : Upd (fun _ => False) w (w.alloc (.cells #[.int .i64 ((i : Int) + 1), .int .i64 (-((i : Int) + 1))] 35)) := (Upd.refl _ w).alloc _
  have hF1 := hF.upd u1 (fun _ _ _ _ _ h => h)
  have ho1 : (w.alloc (.cells #[.int .i64 ((i : Int) + 1), .int .i64 (-((i : Int) + 1))] 35)).ownsRow base 35 2 g n (marks (mkI i) n) := by
    have h1 := ownsRow_upd hown u1 (fun _ _ h => h)
    rw [List.length_replicate, ← marks_iv] at h1
    exact h1
  have hs : Src Try.prog 2 22 (.slice (some ⟨w.heap.size, 0, none⟩) 1 1) 1 (mkI i) (w.alloc (.cells #[.int .i64 ((i : Int) + 1), .int .i64 (-((i : Int) + 1))] 35)) := by
    refine Src.ofSlice _ Try.underlying22 ⟨w.heap.size, 0, none⟩ 1 1 _ rfl ?_ ?_
    · intro j u hj
      rw [Addr.add_lit, Nat.zero_add]
      exact blk_cell (heap_alloc_new w (.cells #[.int .i64 ((i : Int) + 1), .int .i64 (-((i : Int) + 1))] 35)) j (by simpa [mkI, ivC] using hj)
    · intro u hu
      simp [mkI, ivC] at hu
      rcases hu with rfl | rfl <;> rfl
  refine wpList_appX _ hgd s x 22 22 ho base 35 i0 _ 2 16 Try.underlying22 hi0 hz0 hz1 hz2 rfl g n (marks (mkI i) n) hv ho1 _ 1 (mkI i) hx hs (by unfold maxLen; omega) (by omega) (by rw [World.size_alloc]; omega) ?_
  intro v' w' o8 g8 m8 ov8
  refine h v' w' (hF1.step hm o8 g8 m8 ov8) ?_ ?_ ?_
  · unfold OwnI
    rw [List.length_replicate, ← marks_iv]
    have : marks (mkI i) n ++ mkI i = marks (ivC ((i : Int) + 1, -((i : Int) + 1))) (n + 1) := marks_succ _ _
    rw [← this]
    exact o8
  · exact (u1.mono (fun _ _ e => e.elim)).grown g8 (fun k _ e => e)
  · rcases m8 with e | ⟨k, e, hk⟩
    · exact Or.inl e
    · exact Or.inr ⟨k, e, by rw [World.size_alloc] at hk; omega⟩
set_option maxHeartbeats 4000000 in
theorem grown_any (base i : Nat) (fam : Nat → Value → Prop) (ao : Option Addr) (l c : Nat) (m : Int) (w : World) (hF : FamI base w fam) (hm : fam i (.slice ao l c)) (hmi : m = (i : Int) + 1) (hneg : IntKind.i64.wrap (-m) = -m) (hl : l ≤ 1048576000) (hbase : base ≤ w.heap.size) :
    Calls Try.prog 20 #[.slice ao l c, .int .i64 m] w fun e w' => ∃ ao' c', e = .returned (.slice ao' (l + 20) c') ∧ Hid (FamI base w' (plus i (.slice ao' (l + 20) c') fam)) ∧ Hid (Upd (fun k => (Value.slice ao l c).ownBlock = some k) w w') := by
  have HF : Hid (FamI base w (plus i (.slice ao l c) fam)) := hF.less (fun j u h => by
    rcases h with ⟨rfl, rfl⟩ | h
    · exact hm
    · exact h)
  have HMI : Hid (m = (i : Int) + 1) := hmi
  have HO : Hid (OwnI base w (.slice ao l c) (List.replicate l ((i : Int) + 1, -((i : Int) + 1)))) := full_own (hF.full i _ hm) rfl
  have OF := ofB_any m (-m)
  clear hF hm hmi
  go_enter Try.func20, Try.ntmps20
  go_wp2
  go_loopw [0, 5] (fun a b wr => ∃ (t : Nat), b = .int .i64 t ∧ t ≤ 20 ∧ Hid (FamI base wr (plus i a fam)) ∧ Hid (OwnI base wr a (List.replicate (l + t) ((i : Int) + 1, -((i : Int) + 1)))) ∧ Hid (Upd (fun k => (Value.slice ao l c).ownBlock = some k) w wr) ∧ Hid (Moved w (.slice ao l c) a)) (fun _ b _ => 20 - (intOf b).toNat)
  case atStart => exact ⟨0, rfl, by omega, HF, HO, Upd.refl _ _, Moved.refl _ _⟩
  case round =>
    obtain ⟨t, rfl, ht, HFr, HOr, HU, HM⟩ := hrel
    obtain ⟨a1, l1, c1, hsh⟩ := row_shape HOr.out
    subst hsh
    by_cases hlt : t < 20
    · have hlt' : (t : Int) < 20 := by omega
      have HN : Hid (l + t ≤ 1099511627776) := by show _ ≤ _; omega
      go_wp2_with (first
        | (go_at_call 22; (with_reducible refine (OF _).mono ?_); clear OF; rintro e w5 ⟨rfl, b5⟩; have u5 : Upd (fun _ => False) wr w5 := Upd.ofBelow b5 (fun k hk hk' => absurd hk (Nat.not_lt.mpr hk')); have HF5 : Hid (FamI base w5 (plus i (.slice a1 l1 c1) fam)) := HFr.out.upd u5 (fun _ _ _ _ _ h => h); have HO5 : Hid (OwnI base w5 (.slice a1 l1 c1) (List.replicate (l + t) ((i : Int) + 1, -((i : Int) + 1)))) := ownI_bel HOr.out b5; have HU5 : Hid (Upd (fun k => (Value.slice ao l c).ownBlock = some k) w w5) := HU.out.trans u5 (fun _ _ h => h.elim); have HZ5 : Hid (wr.heap.size ≤ w5.heap.size) := b5.size; clear b5 u5)
        | (at_builtin; refine wpList_appF w5 rfl _ _ rfl base (plus i (.slice a1 l1 c1) fam) i (l + t) m HMI.out (.slice a1 l1 c1) HF5.out (Or.inl ⟨rfl, rfl⟩) HO5.out rfl rfl HN.out (Nat.le_trans hbase HU5.out.size) ?_; intro v8 w8 f8 o8 u8 m8; obtain ⟨a8, l8, c8, rfl⟩ := row_shape o8; have HF8 : Hid (FamI base w8 (plus i (.slice a8 l8 c8) (plus i (.slice a1 l1 c1) fam))) := f8; have HO8 : Hid (OwnI base w8 (.slice a8 l8 c8) (List.replicate (l + t + 1) ((i : Int) + 1, -((i : Int) + 1)))) := o8; have HU8 : Hid (Upd (fun k => (Value.slice a1 l1 c1).ownBlock = some k) w5 w8) := u8; have HM8 : Hid (Moved w5 (.slice a1 l1 c1) (.slice a8 l8 c8)) := m8; clear f8 o8 u8 m8))
      go_roundw
      case rel =>
        refine ⟨t + 1, by go_num, by omega, HF8.out.less (fun j u h => ?_), HO8, HU5.out.trans HU8.out (fun k hk e => ?_), Moved.trans HM.out HU5.out.size HM8.out⟩
        · rcases h with ⟨rfl, rfl⟩ | h
          · exact Or.inl ⟨rfl, rfl⟩
          · exact Or.inr (Or.inr h)
        · rcases HM.out with e' | ⟨k', e', hk'⟩
          · rw [← e']; exact e
          · rw [e] at e'
            simp at e'
            omega
      case measure => simp [intOf]; omega
    · obtain ⟨hlt', HT⟩ : (¬ (t : Int) < 20) ∧ Hid (t = 20) := ⟨by omega, by show _ = _; omega⟩
      go_wp2
      go_ret
      have hl1 := HOr.out.len
      rw [HT.out, List.length_replicate] at hl1
      subst hl1
      exact ⟨_, _, rfl, HFr, HU⟩
end Go.Proofs.Ytakannfkbmnlfaa
