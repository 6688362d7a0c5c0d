/-
  The program's contracts, gathered.
-/
import Derived.Test.YtmfmgbjkbadndaaLocEnv
import Derived.Test.YtmfmgbjkbadndaaProgRef
import Derived.Test.YtmfmgbjkbadndaaProgTold
import Derived.Test.YtmfmgbjkbadndaaProgRes
namespace Go.Proofs.Ytmfmgbjkbadndaa
open Go.RowKit
theorem pPrint_any (u : Lc.U) (w : World) (hu : Lc.Small u) (_ : Env w) : Calls Try.prog 14 #[.agg (uArr u)] w fun e w' => e = .returned (.string (Lc.str (Lc.print u))) ∧ Below w.heap.size w w' := pPrint_at u w hu
theorem pDots_any (s : ByteArray) (w : World) (hs : s.size ≤ 100000) (_ : Env w) : Calls Try.prog 16 #[.string s] w fun e w' => e = .returned (.string (Lc.str (Lc.dots s.data.toList))) ∧ Below w.heap.size w w' := pDots_at s w (by omega)
theorem pResolve_any (b r : Lc.U) (w : World) (hb : Lc.Small b) (hr : Lc.Small r) (_ : Env w) : Calls Try.prog 18 #[.agg (uArr b), .agg (uArr r)] w fun e w' => e = .returned (.agg (uArr (Lc.resolve b r))) ∧ Below w.heap.size w w' := pResolve_at b r w hb hr
end Go.Proofs.Ytmfmgbjkbadndaa
