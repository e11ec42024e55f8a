/- MomentFault, EveryFault, AMoment. EveryFault: for a right window. -/
import Derived.Test.YtdacdiigeainmaaDist
import Derived.Test.YtdacdiigeainmaaWinb
import Derived.Test.YtdacdiigeainmaaKmm
import Derived.Test.YtdacdiigeainmaaKwm
namespace Go.Proofs.Ytdacdiigeainmaa
open Go.RowKit
set_option linter.unusedVariables false
set_option linter.unusedSimpArgs false

def momE (at' : Int) : Int := if inB at' 0 345686399999 = false then 1 else 0
def evE (f t ev : Int) : Int := if inB ev 1 86400000 = false then 1 else if 5000 * ev < t - f then 2 else 0
theorem spanErr_eq (n lo hi : Int) : spanErr n lo hi = if inB n lo hi = false then 1 else 0 := by unfold spanErr; cases inB n lo hi <;> rfl

theorem quo_large (d ev : Int) (he : 1 ≤ ev) : (5000 < (d + ev - 1) / ev) ↔ 5000 * ev < d := by
  rw [show (5000 < (d + ev - 1) / ev ↔ 5000 * ev < d) ↔ (5001 ≤ (d + ev - 1) / ev ↔ 5000 * ev < d) from Iff.rfl, Int.le_ediv_iff_mul_le (by omega)]
  omega

end Go.Proofs.Ytdacdiigeainmaa
