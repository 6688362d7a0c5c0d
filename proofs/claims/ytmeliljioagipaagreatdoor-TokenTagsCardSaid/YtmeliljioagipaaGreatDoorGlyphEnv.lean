/-
  What the variables hold: see TokEnv.
-/
import Derived.Test.YtmeliljioagipaaGreatDoorTokEnv
