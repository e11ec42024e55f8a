/- ValuesBetween: the walk of the law, with the contract of Points put in. No condition. -/
import Derived.Test.YtgbnjbbjgkfefaaValLaw
namespace Go.Proofs.Ytgbnjbbjgkfefaa
open Go.RowKit

theorem valuesBetween_walk (w : World) (L : List Int) (A : Option Addr) (cap : Nat) (hc : ∀ i, i < L.length → ∃ ad : Addr, A = some ad ∧ ad.block < w.heap.size ∧ w.cell? (ad.add i) = some (.int .i64 (L.getD i 0)))
    (hl : L.length ≤ 9223372036854775807) (hwf : ∀ i, -9223372036854775808 ≤ L.getD i 0 ∧ L.getD i 0 ≤ 9223372036854775807) :
    Calls Try.prog 6 #[.slice A L.length cap] w fun e w' => e = .returned (.bool true) ∧ Below w.heap.size w w' :=
  values_walk_of points_any w L A cap hc hl hwf
end Go.Proofs.Ytgbnjbbjgkfefaa
