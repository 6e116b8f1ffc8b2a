/-
  Layer 7 (disk): a disk of many files, the i-th of them named nm i.
-/
import Derived.Test.YtgoafinbaiepmaaGreatDoorDt
import Derived.Test.YtgoafinbaiepmaaGreatDoorDu
import Derived.Test.YtgoafinbaiepmaaGreatDoorDw
namespace Go.Proofs.YtgoafinbaiepmaaGreatDoor
open Go.RowKit Go.Shelf Go.Maps Go.WideMaps
set_option maxRecDepth 100000

/-- All blocks of a file, those of its steps among them. -/
def BW (f : Nat) (F : Fl) (k : Nat) : Prop := FW f F k ∨ ∃ s ∈ F.S, s.bl = some k
theorem BW.next {w : World} {f : Nat} {F G : Fl} (h : Next w f F G) {k : Nat} (hk : BW f G k) : BW f F k ∨ w.heap.size ≤ k := by
  rcases hk with hk | ⟨s, hs, hk⟩
  · exact (h.wr k hk).imp Or.inl id
  · rcases h.st s hs with h | h
    · exact Or.inl (Or.inr ⟨s, h, hk⟩)
    · exact Or.inr (h k hk)
theorem FileAt.bw_lt {base : Nat} {w : World} {f : Nat} {F : Fl} (h : FileAt base w f F) {k : Nat} (hk : BW f F k) : base ≤ k ∧ k < w.heap.size := by
  rcases hk with hk | ⟨s, hs, hk⟩
  · exact h.lt hk
  · exact (h.steps s hs).lt hk
theorem FileAt.bw_not {base : Nat} {w : World} {f : Nat} {F : Fl} (h : FileAt base w f F) {k : Nat} {o : Obj} (hk : w.heap[k]? = some o) (ho : ∀ cs t fz, o ≠ .cells cs t fz) : ¬ BW f F k := by
  rintro (hk' | ⟨s, hs, hk'⟩)
  · exact h.not_obj hk ho hk'
  · obtain ⟨cs, hc⟩ := (h.steps s hs).type hk'
    rw [hk] at hc
    exact ho _ _ _ (Option.some.inj hc)
theorem DiskAt.bw_not {base base' d N : Nat} {w : World} {K : Dk} {f : Nat} {F : Fl} (h : DiskAt base w d N K) (hf : FileAt base' w f F) {k : Nat} (hk : BW f F k) : ¬ DW d K k := by
  rcases hk with hk | ⟨s, hs, hk⟩
  · exact fun e => h.apart hf k e hk
  · exact h.apartS (hf.steps s hs) k hk
structure Many (nm : Nat → ByteArray) (base : Nat) (w : World) (d N : Nat) (K : Dk) (Fs : List (Nat × Fl)) : Prop where
  disk : DiskAt base w d N K
  files : ∀ (i : Nat) p, Fs[i]? = some p → FileAt base w p.1 p.2
  apart : ∀ (i j : Nat) p q, Fs[i]? = some p → Fs[j]? = some q → i ≠ j → ∀ k, BW p.1 p.2 k → ¬ BW q.1 q.2 k
  has : ∀ (i : Nat) p, Fs[i]? = some p → HasN K (nm i) i p.1
  ok : ∀ i : Nat, i < Fs.length → (nm i).size ≤ 140737488355328 ∧ nameB (nm i) = true
  on : K.off = false
  arm : K.a1 = 0
theorem Many.one {nm : Nat → ByteArray} {base : Nat} {w : World} {d N : Nat} {K : Dk} {Fs : List (Nat × Fl)} (h : Many nm base w d N K Fs) {i f : Nat} {F : Fl} (hi : Fs[i]? = some (f, F)) : OneN base w d N K (nm i) i f F :=
  ⟨h.disk, h.files i _ hi, h.has i _ hi, h.on, h.arm, (h.ok i (List.getElem?_eq_some_iff.1 hi).1).1, (h.ok i (List.getElem?_eq_some_iff.1 hi).1).2⟩
theorem Many.upd {nm : Nat → ByteArray} {S : Nat → Prop} {base : Nat} {w w' : World} {d N : Nat} {K : Dk} {Fs : List (Nat × Fl)} (h : Many nm base w d N K Fs) (u : Upd S w w') (hd : ∀ k, DW d K k → ¬ S k) (hf : ∀ (i : Nat) p, Fs[i]? = some p → ∀ k, BW p.1 p.2 k → ¬ S k) : Many nm base w' d N K Fs :=
  ⟨h.disk.upd u hd, fun i p hp => (h.files i p hp).upd u (fun k hk => hf i p hp k (Or.inl hk)) (fun s hs k e => hf i p hp k (Or.inr ⟨s, hs, e⟩)), h.apart, h.has, h.ok, h.on, h.arm⟩
theorem Many.below {nm : Nat → ByteArray} {base : Nat} {w w' : World} {d N : Nat} {K : Dk} {Fs : List (Nat × Fl)} (h : Many nm base w d N K Fs) (hb : Below w.heap.size w w') : Many nm base w' d N K Fs :=
  h.upd (Upd.ofBelow (S := fun _ => False) hb (fun k hk hk' => by omega)) (fun _ _ h => h) (fun _ _ _ _ _ h => h)
/-- One of the files has turned. -/
theorem Many.turn {nm : Nat → ByteArray} {base : Nat} {w w' : World} {d N : Nat} {K : Dk} {Fs : List (Nat × Fl)} (h : Many nm base w d N K Fs) {i f : Nat} {F G : Fl} (hi : Fs[i]? = some (f, F)) (D : DiskAt base w' d N K) (hG : FileAt base w' f G) (nx : Next w f F G) (u : Upd (fun k => k = d ∨ FW f F k) w w') : Many nm base w' d N K (Fs.set i (f, G)) := by
  have hil : i < Fs.length := (List.getElem?_eq_some_iff.1 hi).1
  have key : ∀ (j : Nat) q, (Fs.set i (f, G))[j]? = some q → (j = i ∧ q = (f, G)) ∨ (j ≠ i ∧ Fs[j]? = some q) := fun j q hq => by
    by_cases hji : j = i
    · subst hji
      rw [List.getElem?_set_self hil] at hq
      exact Or.inl ⟨rfl, (Option.some.inj hq).symm⟩
    · rw [List.getElem?_set_ne (fun e => hji e.symm)] at hq
      exact Or.inr ⟨hji, hq⟩
  have far : ∀ (j : Nat) q, j ≠ i → Fs[j]? = some q → ∀ k, BW q.1 q.2 k → ¬ (k = d ∨ FW f F k) := fun j q hji hq k hk e => by
    rcases e with e | e
    · exact h.disk.bw_not (h.files j q hq) hk (Or.inl e)
    · exact h.apart j i q (f, F) hq hi hji k hk (Or.inl e)
  refine ⟨D, fun j q hq => ?_, fun a b p q hp hq hab k hk hk' => ?_, fun j q hq => ?_, fun j hj => h.ok j (by rw [List.length_set] at hj; exact hj), h.on, h.arm⟩
  · rcases key j q hq with ⟨_, rfl⟩ | ⟨hji, hq⟩
    · exact hG
    · exact (h.files j q hq).upd u (fun k hk => far j q hji hq k (Or.inl hk)) (fun s hs k e => far j q hji hq k (Or.inr ⟨s, hs, e⟩))
  · rcases key a p hp with ⟨ha, rfl⟩ | ⟨ha, hp⟩
    · rcases key b q hq with ⟨hb, _⟩ | ⟨hb, hq⟩
      · omega
      · rcases BW.next nx hk with e | e
        · exact h.apart i b _ q hi hq (fun e => hb e.symm) k e hk'
        · have := ((h.files b q hq).bw_lt hk').2
          omega
    · rcases key b q hq with ⟨hb, rfl⟩ | ⟨hb, hq⟩
      · rcases BW.next nx hk' with e | e
        · exact h.apart a i p _ hp hi ha k hk e
        · have := ((h.files a p hp).bw_lt hk).2
          omega
      · exact h.apart a b p q hp hq hab k hk hk'
  · rcases key j q hq with ⟨rfl, rfl⟩ | ⟨_, hq⟩
    · exact h.has j (f, F) hi
    · exact h.has j q hq
/-- The map of files is another one. -/
theorem Many.setF {nm : Nat → ByteArray} {base : Nat} {w : World} {d N : Nat} {K : Dk} {Fs : List (Nat × Fl)} (h : Many nm base w d N K Fs) {m : Nat} {D : DataW Unit} (hm : w.ownsMap Tryz.prog 3 ptrR m N D) (h1 : m ≠ K.mn) (h2 : m ≠ K.ml) (hb : base ≤ m) (hat : ∀ (i : Nat) p, Fs[i]? = some p → D.atKey (.int .i64 (i : Int)) .nil = .lit (.int .i64 (p.1 : Int))) : Many nm base (w.setCell ⟨d, 0, none⟩ (.map (some m))) d N { K with mf := m, DF := D } Fs := by
  have us : Upd (fun k => k = d) w (w.setCell ⟨d, 0, none⟩ (.map (some m))) := (Upd.refl (fun k => k = d) w).setCell (p := ⟨d, 0, none⟩) (fun _ => rfl) _
  refine ⟨h.disk.setF hm h1 h2 hb, fun i p hp => ?_, h.apart, fun i p hp => ⟨(h.has i p hp).has, (h.has i p hp).at_, hat i p hp, (h.has i p hp).lt⟩, h.ok, h.on, h.arm⟩
  exact (h.files i p hp).upd us (fun k hk e => h.disk.bw_not (h.files i p hp) (Or.inl hk) (Or.inl e)) (fun s hs k e hh => h.disk.bw_not (h.files i p hp) (Or.inr ⟨s, hs, e⟩) (Or.inl hh))
end Go.Proofs.YtgoafinbaiepmaaGreatDoor
