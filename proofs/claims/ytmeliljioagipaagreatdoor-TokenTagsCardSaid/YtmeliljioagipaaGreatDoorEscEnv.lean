/-
  What the variables hold: see TokEnv. The words of code points are proved in ProgChars.
-/
import Derived.Test.YtmeliljioagipaaGreatDoorTokEnv
import Derived.Test.YtmeliljioagipaaGreatDoorProgTexts
