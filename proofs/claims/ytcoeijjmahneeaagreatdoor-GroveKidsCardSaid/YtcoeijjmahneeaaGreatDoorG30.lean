/-
  What the variables hold: see TokEnv. The words of code points are proved in ProgChars.
-/
import Derived.Test.YtcoeijjmahneeaaGreatDoorG13
import Derived.Test.YtcoeijjmahneeaaGreatDoorG19

