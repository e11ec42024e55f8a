/- How FrameList ends: some windows, at most four. -/
import Derived.Test.YtdacdiigeainmaaStrm
import Derived.Test.YtdacdiigeainmaaWdv
namespace Go.Proofs.Ytdacdiigeainmaa
open Go.RowKit
set_option linter.unusedVariables false
set_option linter.unusedSimpArgs false

def FlEnd (w : World) (g : Nat) (L : List Int) (A : Option Addr) (cap k : Nat) (e : Ending) (w' : World) : Prop :=
  ∃ v l k', e = .returned v ∧ RdWdw w' v l ∧ l.length ≤ 4 ∧ k' ≤ k + 20 ∧ Went w g L A cap k' w'
end Go.Proofs.Ytdacdiigeainmaa
