/-
  The program's contracts, gathered.
-/
import Derived.Test.YtbaodnmgggdcjaaDoorProgParse
import Derived.Test.YtbaodnmgggdcjaaDoorProgFits
import Derived.Test.YtbaodnmgggdcjaaDoorProgPrint
