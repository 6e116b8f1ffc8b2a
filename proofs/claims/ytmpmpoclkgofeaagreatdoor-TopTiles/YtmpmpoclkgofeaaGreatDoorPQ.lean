/-
  PQ.
-/
import Derived.Test.YtmpmpoclkgofeaaGreatDoorPMq
import Derived.Test.YtmpmpoclkgofeaaGreatDoorOXq
import Derived.Test.YtmpmpoclkgofeaaGreatDoorPIq
import Derived.Test.YtmpmpoclkgofeaaGreatDoorGMq
namespace Go.Proofs.YtmpmpoclkgofeaaGreatDoor
open Go Go.RowKit
set_option maxRecDepth 100000

theorem one_perm {X Y : List Sp} (h : OneT X) (hp : X.Perm Y) : OneT Y :=
  ⟨by rw [← hp.length_eq]; exact h.len, fun a ha => h.chk a (hp.mem_iff.2 ha), fun a ha => h.fits a (hp.mem_iff.2 ha), fun a ha => h.small a (hp.mem_iff.2 ha), fun a ha b hb => h.tr a (hp.mem_iff.2 ha) b (hp.mem_iff.2 hb), (hp.map _).nodup_iff.1 h.ids⟩
end Go.Proofs.YtmpmpoclkgofeaaGreatDoor
