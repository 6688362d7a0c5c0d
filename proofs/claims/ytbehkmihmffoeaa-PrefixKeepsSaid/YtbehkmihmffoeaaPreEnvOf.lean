/-
  Stage 8's walks and their openers, gathered.
-/
import Derived.Test.YtbehkmihmffoeaaPreLaw4
import Derived.Test.YtbehkmihmffoeaaPreLift
