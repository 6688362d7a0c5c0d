/-
  The program's contracts, gathered.
-/
import Derived.Test.YtbaclacfadkjdaaGreatDoorG39
import Derived.Test.YtbaclacfadkjdaaGreatDoorG29

