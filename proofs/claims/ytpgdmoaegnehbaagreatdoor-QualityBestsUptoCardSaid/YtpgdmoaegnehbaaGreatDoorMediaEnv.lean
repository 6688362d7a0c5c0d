/-
  The environment, under the name that other stages' texts know it by.
-/
import Derived.Test.YtpgdmoaegnehbaaGreatDoorQualityEnv
