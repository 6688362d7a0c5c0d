/-
  A nought by a nought is some NaN.
-/
import Derived.Test.YtpgdmoaegnehbaaGreatDoorRefRank
import Derived.Deep.Draws
namespace Go.Proofs.YtpgdmoaegnehbaaGreatDoor
open Go.RowKit

theorem Fl.nan_cut (t : Nat) : Fl.nan ((t % 2) * 2 ^ 63 + 0x7ff0000000000000 + 1 + (t / 2) % (2 ^ 52 - 1)) = true := by
  have hr : ((t % 2) * 2 ^ 63 + 0x7ff0000000000000 + 1 + (t / 2) % (2 ^ 52 - 1)) % 9223372036854775808 = 0x7ff0000000000001 + (t / 2) % (2 ^ 52 - 1) := by omega
  unfold Fl.nan Ieee.Format.read
  rw [show Ieee.double.signWeight = 9223372036854775808 from rfl, show Ieee.double.binade = 4503599627370496 from rfl, show Ieee.double.infRung = 9218868437227405312 from rfl]
  dsimp only
  rw [hr, if_neg (by omega), if_neg (by omega), if_neg (by omega)]
  rfl
/-- A nought by a nought: some NaN. -/
theorem nan_drawn (t : TypeId) (w : World) : ∃ b, (binOp .quo t (.float .f64 0) (.float .f64 0)).run Tryz.prog w = .ok (.float .f64 b) w.drew ∧ Fl.nan b = true := by
  have h : FloatKind.f64.format.div 0 0 = none := by decide
  refine ⟨Question.cut (.nanBits .f64 0 0) (w.tape w.drawn (.nanBits .f64 0 0)), ?_, Fl.nan_cut _⟩
  simp [binOp, Op.floatArith, h, Question.forced]
end Go.Proofs.YtpgdmoaegnehbaaGreatDoor
