/-
  The program's contracts, gathered.
-/
import Derived.Test.YtddpkfdmfoehiaaDoorProgExpand
import Derived.Test.YtddpkfdmfoehiaaDoorProgEscape
namespace Go.Proofs.YtddpkfdmfoehiaaDoor
open Go.RowKit
theorem eEscape_any (s : ByteArray) (attr : Bool) (w : World) (hs : s.size ≤ 1000000) (_ : Env w) : Calls Tryd.prog 13 #[.string s, .bool attr] w fun e w' => e = .returned (.string ⟨(E.escape attr s.data.toList).toArray⟩) ∧ Below w.heap.size w w' := eEscape_at s attr w hs
end Go.Proofs.YtddpkfdmfoehiaaDoor
