/-
  The program's contracts, gathered.
-/
import Derived.Test.YtdkephbfehlodaaDoorProgParse
import Derived.Test.YtdkephbfehlodaaDoorProgPrint
