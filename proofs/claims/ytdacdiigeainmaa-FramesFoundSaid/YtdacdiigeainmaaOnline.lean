/- The contracts of OnLine (package basic) and of Reconstruct (package compress). -/
import Derived.Test.YtdacdiigeainmaaDiv
import Derived.Test.YtdacdiigeainmaaRise
import Derived.Deep.RegionHeld3
import Derived.Deep.DeepCutAuto
import Derived.Laws.EntriesVeiled
namespace Go.Proofs.Ytdacdiigeainmaa
open Go.RowKit
set_option linter.unusedVariables false
set_option linter.unusedSimpArgs false

theorem mul_bound (a b : Int) (A B : Nat) (ha : -(A : Int) ≤ a ∧ a ≤ A) (hb : -(B : Int) ≤ b ∧ b ≤ B) : -((A * B : Nat) : Int) ≤ a * b ∧ a * b ≤ ((A * B : Nat) : Int) := by
  have h1 : (a * b).natAbs ≤ A * B := by
    rw [Int.natAbs_mul]
    exact Nat.mul_le_mul (by omega) (by omega)
  omega

/-- The value at a moment on the line between two samples. -/
def lineAt (p n : Smp) (t : Int) : Int × Int := fracOf (p.v * (n.t - p.t) + (n.v - p.v) * (t - p.t)) (n.t - p.t)

/-- A sample whose numbers are right. -/
def Right (x : Smp) : Prop := (0 ≤ x.t ∧ x.t ≤ 345686399999) ∧ (-1000000 ≤ x.v ∧ x.v ≤ 1000000)

end Go.Proofs.Ytdacdiigeainmaa
