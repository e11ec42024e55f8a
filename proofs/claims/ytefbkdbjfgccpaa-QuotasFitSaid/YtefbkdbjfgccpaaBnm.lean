/- Bins as data. -/
import Derived.Test.YtefbkdbjfgccpaaStrm
namespace Go.Proofs.Ytefbkdbjfgccpaa

structure Bin where
  f : Int
  s : Int
  c : Int
  o : Int
  lo : Int
  hi : Int
  deriving DecidableEq
end Go.Proofs.Ytefbkdbjfgccpaa
