/- The contracts of the reference's divisor, Lowest, onLine, around. -/
import Derived.Test.YtdacdiigeainmaaRecon
namespace Go.Proofs.Ytdacdiigeainmaa
open Go.RowKit
set_option linter.unusedVariables false
set_option linter.unusedSimpArgs false

/-- The value on the line, where the two samples may be one. -/
def lineOr (p n : Smp) (t : Int) : Int × Int := if p.t = n.t then (p.v, 1) else lineAt p n t

end Go.Proofs.Ytdacdiigeainmaa
