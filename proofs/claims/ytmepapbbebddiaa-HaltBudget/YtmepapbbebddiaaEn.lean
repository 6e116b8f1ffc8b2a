/-
  halt: end: a stop alone is cancelled: its cells, its channel.
-/
import Derived.Test.YtmepapbbebddiaaNs
import Derived.Conc.EventLaws
import Derived.Deep.Cut
namespace Go.Proofs.Ytmepapbbebddiaa
open Go Go.Conc Go.RowKit Go.MuLone

theorem c9_1 (lk : Nat) (ab us : Value) (ug : Int) (ts : Value) (tg why left : Int) (ch : Nat) (x : Value) : (cells9 lk ab us ug ts tg why left ch).setIfInBounds 1 (x) = cells9 lk x us ug ts tg why left ch := by simp [cells9]
theorem c9_2 (lk : Nat) (ab us : Value) (ug : Int) (ts : Value) (tg why left : Int) (ch : Nat) (x : Value) : (cells9 lk ab us ug ts tg why left ch).setIfInBounds 2 (x) = cells9 lk ab x ug ts tg why left ch := by simp [cells9]
theorem c9_3 (lk : Nat) (ab us : Value) (ug : Int) (ts : Value) (tg why left : Int) (ch : Nat) (x : Int) : (cells9 lk ab us ug ts tg why left ch).setIfInBounds 3 (.int .i64 x) = cells9 lk ab us x ts tg why left ch := by simp [cells9]
theorem c9_4 (lk : Nat) (ab us : Value) (ug : Int) (ts : Value) (tg why left : Int) (ch : Nat) (x : Value) : (cells9 lk ab us ug ts tg why left ch).setIfInBounds 4 (x) = cells9 lk ab us ug x tg why left ch := by simp [cells9]
theorem c9_5 (lk : Nat) (ab us : Value) (ug : Int) (ts : Value) (tg why left : Int) (ch : Nat) (x : Int) : (cells9 lk ab us ug ts tg why left ch).setIfInBounds 5 (.int .i64 x) = cells9 lk ab us ug ts x why left ch := by simp [cells9]
theorem c9_6 (lk : Nat) (ab us : Value) (ug : Int) (ts : Value) (tg why left : Int) (ch : Nat) (x : Int) : (cells9 lk ab us ug ts tg why left ch).setIfInBounds 6 (.int .i64 x) = cells9 lk ab us ug ts tg x left ch := by simp [cells9]
theorem c9_7 (lk : Nat) (ab us : Value) (ug : Int) (ts : Value) (tg why left : Int) (ch : Nat) (x : Int) : (cells9 lk ab us ug ts tg why left ch).setIfInBounds 7 (.int .i64 x) = cells9 lk ab us ug ts tg why x ch := by simp [cells9]
/-- A channel of stops. -/
def ChanAt (w : World) (ch : Nat) (shut : Bool) : Prop := w.heap[ch]? = some (.chan 0 #[] shut 0 0 false)
/-- A channel is closed. -/
def shutC (w : World) (ch : Nat) : World := { w with heap := w.heap.setIfInBounds ch (.chan 0 #[] true 0 0 false) }

def Hid (p : Prop) : Prop := p
theorem shutC_rest (w : World) (ch : Nat) : (shutC w ch).os = w.os ∧ (shutC w ch).tape = w.tape ∧ (shutC w ch).output = w.output := ⟨rfl, rfl, rfl⟩
theorem setCell_rest (w : World) (a : Addr) (v : Value) : (w.setCell a v).os = w.os ∧ (w.setCell a v).tape = w.tape ∧ (w.setCell a v).output = w.output := ⟨rfl, rfl, rfl⟩
/-- What end leaves. -/
def endW (w : World) (b ch : Nat) (why : Int) : World :=
  shutC ((((((w.setCell ⟨b, 6, none⟩ (.int .i64 why)).setCell ⟨b, 1, none⟩ (.pointer none)).setCell ⟨b, 2, none⟩ (.slice none 0 0)).setCell ⟨b, 3, none⟩ (.int .i64 0)).setCell ⟨b, 4, none⟩ (.slice none 0 0)).setCell ⟨b, 5, none⟩ (.int .i64 0)) ch

theorem ChanAt.set {w : World} {ch b k : Nat} {t : Bool} {c : Array Value} {T : TypeId} (h : ChanAt w ch t) (hb : Blk w b c T) (v : Value) : ChanAt (w.setCell ⟨b, k, none⟩ v) ch t := by
  have hne : ch ≠ b := by
    rintro rfl
    unfold Blk at hb; unfold ChanAt at h
    rw [h] at hb
    cases hb
  unfold ChanAt at h ⊢
  rw [Below.heap_setCell w ⟨b, k, none⟩ v ch hne]
  exact h

set_option maxRecDepth 100000 in
set_option maxHeartbeats 300000 in
theorem end_any (b lk : Nat) (ab us ts : Value) (ug tg why0 left why : Int) (ch : Nat) (w : World) (hb : Blk w b (cells9 lk ab us ug ts tg why0 left ch) 85) (hch : ChanAt w ch false) :
    Calls Try.prog 39 #[.pointer (some ⟨b, 0, none⟩), .int .i64 why] w fun e w' => e = .returned (.tuple #[]) ∧
      Blk w' b (cells9 lk (.pointer none) (.slice none 0 0) 0 (.slice none 0 0) 0 why left ch) 85 ∧ ChanAt w' ch true ∧ w'.heap.size = w.heap.size ∧ (∀ k, k ≠ b → k ≠ ch → w'.heap[k]? = w.heap[k]?) ∧ w'.os = w.os ∧ w'.tape = w.tape ∧ w'.output = w.output := by
  have h6 := hb.cell 6 rfl
  have h1 := hb.cell 1 rfl
  have h2 := hb.cell 2 rfl
  have h3 := hb.cell 3 rfl
  have h4 := hb.cell 4 rfl
  have h5 := hb.cell 5 rfl
  have f1 := hb.frozen 1
  have f2 := hb.frozen 2
  have f3 := hb.frozen 3
  have f4 := hb.frozen 4
  have f5 := hb.frozen 5
  have f6 := hb.frozen 6
  have b6 : Blk _ b (cells9 lk ab us ug ts tg why left ch) 85 := c9_6 lk ab us ug ts tg why0 left ch why ▸ hb.set 6 (.int .i64 why)
  have c6 := hch.set (k := 6) hb (.int .i64 why)
  have b1 : Blk _ b (cells9 lk (.pointer none) us ug ts tg why left ch) 85 := c9_1 lk ab us ug ts tg why left ch (.pointer none) ▸ b6.set 1 (.pointer none)
  have c1 := c6.set (k := 1) b6 (.pointer none)
  have b2 : Blk _ b (cells9 lk (.pointer none) (.slice none 0 0) ug ts tg why left ch) 85 := c9_2 lk (.pointer none) us ug ts tg why left ch (.slice none 0 0) ▸ b1.set 2 (.slice none 0 0)
  have c2 := c1.set (k := 2) b1 (.slice none 0 0)
  have b3 : Blk _ b (cells9 lk (.pointer none) (.slice none 0 0) 0 ts tg why left ch) 85 := c9_3 lk (.pointer none) (.slice none 0 0) ug ts tg why left ch 0 ▸ b2.set 3 (.int .i64 0)
  have c3 := c2.set (k := 3) b2 (.int .i64 0)
  have b4 : Blk _ b (cells9 lk (.pointer none) (.slice none 0 0) 0 (.slice none 0 0) tg why left ch) 85 := c9_4 lk (.pointer none) (.slice none 0 0) 0 ts tg why left ch (.slice none 0 0) ▸ b3.set 4 (.slice none 0 0)
  have c4 := c3.set (k := 4) b3 (.slice none 0 0)
  have b5 : Blk _ b (cells9 lk (.pointer none) (.slice none 0 0) 0 (.slice none 0 0) 0 why left ch) 85 := c9_5 lk (.pointer none) (.slice none 0 0) 0 (.slice none 0 0) tg why left ch 0 ▸ b4.set 5 (.int .i64 0)
  have c5 := c4.set (k := 5) b4 (.int .i64 0)
  have hend : endW w b ch why = shutC ((((((w.setCell ⟨b, 6, none⟩ (.int .i64 why)).setCell ⟨b, 1, none⟩ (.pointer none)).setCell ⟨b, 2, none⟩ (.slice none 0 0)).setCell ⟨b, 3, none⟩ (.int .i64 0)).setCell ⟨b, 4, none⟩ (.slice none 0 0)).setCell ⟨b, 5, none⟩ (.int .i64 0)) ch := rfl
  have hsz : ((((((w.setCell ⟨b, 6, none⟩ (.int .i64 why)).setCell ⟨b, 1, none⟩ (.pointer none)).setCell ⟨b, 2, none⟩ (.slice none 0 0)).setCell ⟨b, 3, none⟩ (.int .i64 0)).setCell ⟨b, 4, none⟩ (.slice none 0 0)).setCell ⟨b, 5, none⟩ (.int .i64 0)).heap.size = w.heap.size := by simp
  have hot : ∀ k, k ≠ b → ((((((w.setCell ⟨b, 6, none⟩ (.int .i64 why)).setCell ⟨b, 1, none⟩ (.pointer none)).setCell ⟨b, 2, none⟩ (.slice none 0 0)).setCell ⟨b, 3, none⟩ (.int .i64 0)).setCell ⟨b, 4, none⟩ (.slice none 0 0)).setCell ⟨b, 5, none⟩ (.int .i64 0)).heap[k]? = w.heap[k]? := by
    intro k hk
    rw [Below.heap_setCell _ ⟨b, 5, none⟩ _ k hk, Below.heap_setCell _ ⟨b, 4, none⟩ _ k hk, Below.heap_setCell _ ⟨b, 3, none⟩ _ k hk, Below.heap_setCell _ ⟨b, 2, none⟩ _ k hk, Below.heap_setCell _ ⟨b, 1, none⟩ _ k hk, Below.heap_setCell _ ⟨b, 6, none⟩ _ k hk]
  have hfin : Hid (Blk (endW w b ch why) b (cells9 lk (.pointer none) (.slice none 0 0) 0 (.slice none 0 0) 0 why left ch) 85 ∧ ChanAt (endW w b ch why) ch true ∧ (endW w b ch why).heap.size = w.heap.size ∧ (∀ k, k ≠ b → k ≠ ch → (endW w b ch why).heap[k]? = w.heap[k]?) ∧ (endW w b ch why).os = w.os ∧ (endW w b ch why).tape = w.tape ∧ (endW w b ch why).output = w.output) := by
    have hne : ch ≠ b := by
      rintro rfl
      unfold Blk at hb; unfold ChanAt at hch
      rw [hch] at hb
      cases hb
    have hlt : ch < w.heap.size := by
      unfold ChanAt at hch
      exact (Array.getElem?_eq_some_iff.1 hch).1
    rw [hend]
    refine ⟨?_, ?_, ?_, ?_, ?_⟩
    · refine b5.upd ?_
      simp only [shutC]
      rw [Array.getElem?_setIfInBounds_ne hne]
    · simp only [ChanAt, shutC]
      rw [Array.getElem?_setIfInBounds_self_of_lt (by rw [hsz]; exact hlt)]
    · simp only [shutC, Array.size_setIfInBounds]
      exact hsz
    · intro k hk hkc
      simp only [shutC]
      rw [Array.getElem?_setIfInBounds_ne (Ne.symm hkc)]
      exact hot k hk
    · simp only [(shutC_rest _ _).1, (shutC_rest _ _).2.1, (shutC_rest _ _).2.2, (setCell_rest _ _ _).1, (setCell_rest _ _ _).2.1, (setCell_rest _ _ _).2.2, and_self]
  have h8 := b5.cell 8 rfl
  clear b1 b2 b3 b4 b5 b6 c1 c2 c3 c4 c6 hb hch hot hsz
  go_enter Try.func39, Try.ntmps39
  go_upto_region 2 with fail
  revert h8 c5 hend
  generalize ((((((w.setCell ⟨b, 6, none⟩ (.int .i64 why)).setCell ⟨b, 1, none⟩ (.pointer none)).setCell ⟨b, 2, none⟩ (.slice none 0 0)).setCell ⟨b, 3, none⟩ (.int .i64 0)).setCell ⟨b, 4, none⟩ (.slice none 0 0)).setCell ⟨b, 5, none⟩ (.int .i64 0)) = W0
  intro c5 hend h8
  have hcl : ∀ (ats : Array TypeId) (ty : TypeId), (Builtin.close_ ats ty #[.chan (some ch)]).run Try.prog W0 = .ok (.tuple #[]) (shutC W0 ch) := fun ats ty => run_close_open ats ty c5
  clear c5
  go_wp2
  go_end0
  rw [← hend]
  exact ⟨rfl, hfin⟩
end Go.Proofs.Ytmepapbbebddiaa
