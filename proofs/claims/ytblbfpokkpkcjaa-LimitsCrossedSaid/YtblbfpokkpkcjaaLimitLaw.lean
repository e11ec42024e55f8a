/- LimitsCrossed: the walk of the law, with CrossingsOf's contract put in. No condition. -/
import Derived.Test.YtblbfpokkpkcjaaLimLaw
import Derived.Test.YtblbfpokkpkcjaaCrf
namespace Go.Proofs.Ytblbfpokkpkcjaa
open Go.RowKit

theorem limitsCrossed_walk (w : World) (L : List Int) (A : Option Addr) (cap : Nat) (hc : ∀ i, i < L.length → ∃ ad : Addr, A = some ad ∧ ad.block < w.heap.size ∧ w.cell? (ad.add i) = some (.int .i64 (L.getD i 0)))
    (hl : L.length ≤ 9223372036854775807) (hwf : ∀ i, -9223372036854775808 ≤ L.getD i 0 ∧ L.getD i 0 ≤ 9223372036854775807) :
    Calls Try.prog 8 #[.slice A L.length cap] w fun e w' => e = .returned (.bool true) ∧ Below w.heap.size w w' :=
  limits_walk_of crossingsOf_any w L A cap hc hl hwf
end Go.Proofs.Ytblbfpokkpkcjaa
