/-
  What stage 3's walks lean on, together.
-/
import Derived.Test.YtdonbgejnllhlaaVaBytes
