/-
  The program's contracts, gathered.
-/
import Derived.Test.YtbehkmihmffoeaaProgDeclare
import Derived.Test.YtbehkmihmffoeaaSamePairs
