/-
  The environment, under the name that other stages' texts know it by.
-/
import Derived.Test.YtdhondndidoniaaGreatDoorG17
import Derived.Test.YtdhondndidoniaaGreatDoorG07

