/- Slices of stretches: cells, append of one, reading. No condition beyond the contracts'. -/
import Derived.Test.YtdacdiigeainmaaStrl
import Derived.Test.YtdacdiigeainmaaApp
import Derived.OwnWalkIn
namespace Go.Proofs.Ytdacdiigeainmaa
open Go.RowKit
set_option linter.unusedVariables false
set_option linter.unusedSimpArgs false

def strCells (l : List Str) : List Value := l.flatMap fun p => [.int .i64 p.a, .int .i64 p.b, .int .i64 p.s.t, .int .i64 p.s.v, .int .i64 p.s.q]
theorem strCells_append (a b : List Str) : strCells (a ++ b) = strCells a ++ strCells b := by simp [strCells]
theorem strCells_length (l : List Str) : (strCells l).length = l.length * 5 := by
  induction l with
  | nil => rfl
  | cons x l ih => simp [strCells] at ih ⊢; omega
theorem strCells_get (l : List Str) (i : Nat) (h : i < l.length) : (strCells l)[i * 5]? = some (.int .i64 l[i].a) ∧ (strCells l)[i * 5 + 1]? = some (.int .i64 l[i].b) ∧ (strCells l)[i * 5 + 2]? = some (.int .i64 l[i].s.t) ∧ (strCells l)[i * 5 + 3]? = some (.int .i64 l[i].s.v) ∧ (strCells l)[i * 5 + 4]? = some (.int .i64 l[i].s.q) := by
  induction l generalizing i with
  | nil => simp at h
  | cons x l ih =>
    cases i with
    | zero => simp [strCells]
    | succ i =>
      have := ih i (by simpa using h)
      rw [show (i + 1) * 5 = i * 5 + 5 from by omega, show i * 5 + 5 + 1 = i * 5 + 1 + 5 from by omega, show i * 5 + 5 + 2 = i * 5 + 2 + 5 from by omega, show i * 5 + 5 + 3 = i * 5 + 3 + 5 from by omega, show i * 5 + 5 + 4 = i * 5 + 4 + 5 from by omega]
      simpa [strCells] using this
theorem strCells_set (l : List Str) (i : Nat) (h : i < l.length) (y : Str) : (((((strCells l).set (i * 5) (.int .i64 y.a)).set (i * 5 + 1) (.int .i64 y.b)).set (i * 5 + 2) (.int .i64 y.s.t)).set (i * 5 + 3) (.int .i64 y.s.v)).set (i * 5 + 4) (.int .i64 y.s.q) = strCells (l.set i y) := by
  induction l generalizing i with
  | nil => simp at h
  | cons x l ih =>
    cases i with
    | zero => simp [strCells]
    | succ i =>
      have := ih i (by simpa using h)
      simp only [List.set_cons_succ]
      have e : ∀ (x : Str) (l : List Str), strCells (x :: l) = [.int .i64 x.a, .int .i64 x.b, .int .i64 x.s.t, .int .i64 x.s.v, .int .i64 x.s.q] ++ strCells l := fun _ _ => by simp [strCells]
      rw [e, e, ← this, show (i + 1) * 5 = i * 5 + 5 from by omega, show i * 5 + 5 + 1 = i * 5 + 1 + 5 from by omega, show i * 5 + 5 + 2 = i * 5 + 2 + 5 from by omega, show i * 5 + 5 + 3 = i * 5 + 3 + 5 from by omega, show i * 5 + 5 + 4 = i * 5 + 4 + 5 from by omega]
      simp
end Go.Proofs.Ytdacdiigeainmaa
