/-
  Layer 13 (sketch): SketchPlays: asks of any kind; ends of any book.
-/
import Derived.Test.YtmegmjhkjaejgaaLG
namespace Go.Proofs.Ytmegmjhkjaejgaa.sk.pl
open Go Go.RowKit Go.Proofs.Ytmegmjhkjaejgaa.sk
set_option maxRecDepth 100000

theorem asks_any (base gb : Nat) (bv wv : Value) (vs us : List Value) (Ks : List (List (Int × Int))) (k I : Int) (x2 x3 : Value) (V N : Nat) (aa ba ca da : Option Addr) (na nb nc nd pa pb pc pd : Nat) (la lb : List (Int × Int)) (w : World)
    (B : BookAt base w gb bv wv vs us Ks) (hb : base ≤ w.heap.size) (hs : ∀ K ∈ Ks, K.length ≤ 1920 ∧ Bin K) (hn : Ks.length ≤ 7000000000) (hA : InAt w aa na la) (hB : InAt w ba nb lb) (hC : InAt w ca nc la) (hD : InAt w da nd lb) (hV : V < 18446744073709551616) (hN : N < 18446744073709551616) :
    Calls Try.prog 6 #[.pointer (some ⟨gb, 0, none⟩), .agg (opL k I x2 x3 V N).toArray, .slice aa na pa, .slice ba nb pb, .slice ca nc pc, .slice da nd pd] w (AskP base gb bv wv vs us Ks w) := by
  by_cases h0 : k < 1 ∨ 6 < k
  · exact ask_other base gb bv wv vs us Ks I x2 x3 V N aa ba ca da na nb nc nd pa pb pc pd w B hs k h0
  · have hk : k = 1 ∨ k = 2 ∨ k = 3 ∨ k = 4 ∨ k = 5 ∨ k = 6 := by omega
    rcases hk with rfl | rfl | rfl | rfl | rfl | rfl
    · obtain ⟨ix, i1, i2⟩ := index_uni V hV
      obtain ⟨sx, sy, se, s1, s2⟩ := span_uni I
      refine ask_index base gb bv wv vs us Ks I x2 x3 V N aa ba ca da na nb nc nd pa pb pc pd w B hs ix sx sy se (chkE la) i1 i2 s1 s2 (fun W b => ?_) (fun W b => ?_)
      · exact check_any aa na pa la W (hA.below b).at_ hA.len hA.bin
      · exact (refCheck_any ca nc pc la W (hC.below b).at_ hC.len hC.bin).mono fun r w' ⟨h1, h2⟩ => ⟨h1, below_drewQ h2⟩
    · obtain ⟨L, err, hL, u1, u2⟩ := add_uni la hA.bin V N hV hN
      exact ask_add base gb bv wv vs us Ks I x2 x3 V N aa ba ca da na nb nc nd pa pb pc pd w B hb hs hn L err hL (fun W b => u1 W aa na pa (hA.below b)) (fun W b => u2 W ca nc pc (hC.below b))
    · obtain ⟨L, err, hL, u1, u2⟩ := merge_uni la lb
      exact ask_merge base gb bv wv vs us Ks I x2 x3 V N aa ba ca da na nb nc nd pa pb pc pd w B hb hs hn L err hL (fun W b => u1 W aa ba na nb pa pb (hA.below b) (hB.below b)) (fun W b => u2 W ca da nc nd pc pd (hC.below b) (hD.below b))
    · obtain ⟨L, err, hL, u1, u2⟩ := less_uni la lb hA.bin
      exact ask_less base gb bv wv vs us Ks I x2 x3 V N aa ba ca da na nb nc nd pa pb pc pd w B hb hs hn L err hL (fun W b => u1 W aa ba na nb pa pb (hA.below b) (hB.below b)) (fun W b => u2 W ca da nc nd pc pd (hC.below b) (hD.below b))
    · obtain ⟨h1, l1, er, u1, u2⟩ := count_uni la
      exact ask_count base gb bv wv vs us Ks I x2 x3 V N aa ba ca da na nb nc nd pa pb pc pd w B hs h1 l1 er (fun W b => u1 W aa na pa (hA.below b)) (fun W b => u2 W ca nc pc (hC.below b))
    · obtain ⟨sx, sy, se, u1, u2⟩ := quan_uni la V N
      exact ask_quan base gb bv wv vs us Ks I x2 x3 V N aa ba ca da na nb nc nd pa pb pc pd w B hs sx sy se (fun W b => u1 W aa na pa (hA.below b)) (fun W b => u2 W ca nc pc (hC.below b))
set_option maxHeartbeats 1000000 in
theorem ends_none (base gb c : Nat) (ao : Option Addr) (wv : Value) (us0 : List Value) (Ks : List (List (Int × Int))) (w : World) (B : BookAt base w gb (.slice ao 0 c) wv [] us0 Ks) :
    Calls Try.prog 9 #[.pointer (some ⟨gb, 0, none⟩)] w fun e w' => e = .returned (.bool true) ∧ Below base w w' := by
  obtain ⟨c0, c1⟩ := cell2 B.block
  clear B
  go_enter Try.func9, Try.ntmps9
  go_wp2
  go_loopw [2, 3, 4] (fun z a b wr => z = .bool false ∧ a = .int .i64 0 ∧ wr = w) (fun _ _ _ _ => 0)
  case atStart => exact ⟨rfl, rfl, rfl⟩
  case round =>
    obtain ⟨rfl, rfl, rfl⟩ := hrel
    go_wp2
    go_loopw [5, 6] (fun a b wr' => a = .int .i64 0 ∧ wr' = wr) (fun _ _ _ => 0)
    case atStart => exact ⟨rfl, rfl⟩
    case round =>
      obtain ⟨rfl, rfl⟩ := hrel
      go_wp2
      go_loopw [7, 8, 9, 10] (fun z a b d wr' => z = .slice none 0 0 ∧ a = .int .i64 0 ∧ wr' = wr) (fun _ _ _ _ _ => 0)
      case atStart => exact ⟨rfl, rfl, rfl⟩
      case round =>
        obtain ⟨rfl, rfl, rfl⟩ := hrel
        go_wp2
        go_loopw [2, 11, 12] (fun z a b wr' => z = .bool false ∧ a = .int .i64 0 ∧ wr' = wr) (fun _ _ _ _ => 0)
        case atStart => exact ⟨rfl, rfl, rfl⟩
        case round =>
          obtain ⟨rfl, rfl, rfl⟩ := hrel
          go_wp2
          go_ret
          exact ⟨rfl, Below.refl _ _⟩
theorem ends_any (base gb : Nat) (bv wv : Value) (vs us0 : List Value) (Ks : List (List (Int × Int))) (w : World) (B : BookAt base w gb bv wv vs us0 Ks) (hb0 : base ≤ w.heap.size) (hvl : Ks.length ≤ 7000000000) (hK : ∀ K ∈ Ks, K.length ≤ 1920 ∧ Bin K) :
    Calls Try.prog 9 #[.pointer (some ⟨gb, 0, none⟩)] w fun e w' => e = .returned (.bool true) ∧ Below base w w' := by
  obtain ⟨ao, m, c, rfl⟩ := row_shape B.lown
  have hm := (own_cap B.lown).1
  cases hv : vs with
  | nil =>
    subst hv
    obtain rfl : m = 0 := hm
    exact ends_none base gb c ao wv us0 Ks w B
  | cons x xs =>
    have hp : 0 < vs.length := by rw [hv]; simp
    obtain ⟨g, cp, e, _⟩ := own_some B.lown hp
    simp at e
    obtain ⟨rfl, _, rfl⟩ := e
    exact ends_some base gb g m c wv vs us0 Ks w B hb0 (by rw [B.vlen]; exact hvl) hm.symm (by omega) hK
end Go.Proofs.Ytmegmjhkjaejgaa.sk.pl
