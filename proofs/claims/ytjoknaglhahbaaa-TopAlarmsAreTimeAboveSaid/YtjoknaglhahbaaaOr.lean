/- The contract of cmp.Or at errors. -/
import Derived.Test.YtjoknaglhahbaaaChk
namespace Go.Proofs.Ytjoknaglhahbaaa
open Go.RowKit
set_option linter.unusedVariables false
set_option linter.unusedSimpArgs false

def orOf : List Int → Int
  | [] => 0
  | x :: l => if x ≠ 0 then x else orOf l

end Go.Proofs.Ytjoknaglhahbaaa
