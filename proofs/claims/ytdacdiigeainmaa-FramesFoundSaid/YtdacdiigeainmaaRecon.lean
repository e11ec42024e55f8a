/- The contract of Reconstruct (package compress). -/
import Derived.Test.YtdacdiigeainmaaOnline
import Derived.Test.YtdacdiigeainmaaSerr
import Derived.Test.YtdacdiigeainmaaPos
namespace Go.Proofs.Ytdacdiigeainmaa
open Go.RowKit
set_option linter.unusedVariables false
set_option linter.unusedSimpArgs false

def reconOf (l : List Smp) (t : Int) : Option (Int × Int) :=
  if posF l t = l.length ∨ (atS l (posF l t)).q = 2 then none
  else if (atS l (posF l t)).t = t then some ((atS l (posF l t)).v, 1)
  else if posF l t = 0 ∨ (atS l (posF l t - 1)).q = 2 then none
  else some (lineAt (atS l (posF l t - 1)) (atS l (posF l t)) t)
def reconV (l : List Smp) (t : Int) : Int × Int := (reconOf l t).getD (0, 0)
def reconB (l : List Smp) (t : Int) : Bool := (reconOf l t).isSome

/-- What holds of the place of a moment. -/
theorem pos_around (l : List Smp) (t : Int) (h : Rise none l) : (∀ i, i < posF l t → i < l.length → (atS l i).t < t) ∧ (posF l t < l.length → t ≤ (atS l (posF l t)).t) := by
  refine ⟨fun i h1 h2 => ?_, fun h1 => (posF_iff l t none h _ h1).2 (Nat.le_refl _)⟩
  have := posF_iff l t none h i h2
  omega

def rcE (l : List Smp) (t : Int) : Int := if serErr l ≠ 0 then serErr l else if inB t 0 345686399999 = false then 1 else 0
def rcV (l : List Smp) (t : Int) : Int × Int := if rcE l t = 0 then reconV l t else (0, 0)
def rcB (l : List Smp) (t : Int) : Bool := if rcE l t = 0 then reconB l t else false

end Go.Proofs.Ytdacdiigeainmaa
