/-
  What the code's own functions of columns give.
-/
import Derived.Test.YtdonbgejnllhlaaCcTakeRest
import Derived.Test.YtdonbgejnllhlaaCcBools
