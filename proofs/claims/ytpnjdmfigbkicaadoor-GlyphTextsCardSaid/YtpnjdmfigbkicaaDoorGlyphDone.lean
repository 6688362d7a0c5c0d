/-
  The program's contracts, gathered.
-/
import Derived.Test.YtpnjdmfigbkicaaDoorProgTexts
