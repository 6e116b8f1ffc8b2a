/-
  Xk.
-/
import Derived.Test.YthcghpbkadlliabGreatDoorXf
import Derived.Test.YthcghpbkadlliabGreatDoorXx
import Derived.Test.YthcghpbkadlliabGreatDoorMa23
