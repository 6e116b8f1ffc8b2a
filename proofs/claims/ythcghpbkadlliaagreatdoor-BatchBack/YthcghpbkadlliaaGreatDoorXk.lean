/-
  Xk.
-/
import Derived.Test.YthcghpbkadlliaaGreatDoorXf
import Derived.Test.YthcghpbkadlliaaGreatDoorMa22
import Derived.Test.YthcghpbkadlliaaGreatDoorMa23
