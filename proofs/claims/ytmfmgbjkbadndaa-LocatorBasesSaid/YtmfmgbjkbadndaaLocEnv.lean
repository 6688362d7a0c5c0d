/-
  What the packages' variables hold: see GlyphEnv; the document's own words, gathered.
-/
import Derived.Test.YtmfmgbjkbadndaaGlyphEnv
import Derived.Test.YtmfmgbjkbadndaaRefLoc4
import Derived.Test.YtmfmgbjkbadndaaRefLoc6
import Derived.Test.YtmfmgbjkbadndaaRefLoc7
