/- Windows: their checks in package basic and in the reference. -/
import Derived.Test.YtdacdiigeainmaaSerr
namespace Go.Proofs.Ytdacdiigeainmaa
open Go.RowKit
set_option linter.unusedVariables false
set_option linter.unusedSimpArgs false

def winB (f t : Int) : Bool := decide (0 ≤ f ∧ f ≤ t ∧ t ≤ 345686400000)
def winErr (f t : Int) : Int := if winB f t = true then 0 else 1
theorem winB_true {f t : Int} : winB f t = true ↔ (0 ≤ f ∧ f ≤ t ∧ t ≤ 345686400000) := by simp [winB]

set_option maxHeartbeats 1000000 in
theorem window_any (f t : Int) (w : World) : Calls Try.prog 46 #[.agg #[.int .i64 f, .int .i64 t]] w fun e w' => e = .returned (.bool (winB f t)) ∧ Below w.heap.size w w' := by
  by_cases h1 : 0 ≤ f
  · by_cases h2 : f ≤ t
    · by_cases h3 : t ≤ 345686400000
      · have hb : winB f t = true := winB_true.2 ⟨h1, h2, h3⟩
        have HB := Lib.hid hb
        clear hb
        go_enter Try.func46, Try.ntmps46
        go_wp2_with fail
        go_ret
        exact ⟨ret_bool HB.out.symm, (Below.refl _ _).alloc (Nat.le_refl _) _⟩
      · have hb : winB f t = false := by rw [← Bool.not_eq_true, winB_true]; omega
        have HB := Lib.hid hb
        clear hb
        go_enter Try.func46, Try.ntmps46
        go_wp2_with fail
        go_ret
        exact ⟨ret_bool HB.out.symm, (Below.refl _ _).alloc (Nat.le_refl _) _⟩
    · have hb : winB f t = false := by rw [← Bool.not_eq_true, winB_true]; omega
      have HB := Lib.hid hb
      clear hb
      go_enter Try.func46, Try.ntmps46
      go_wp2_with fail
      go_ret
      exact ⟨ret_bool HB.out.symm, (Below.refl _ _).alloc (Nat.le_refl _) _⟩
  · have hb : winB f t = false := by rw [← Bool.not_eq_true, winB_true]; omega
    have HB := Lib.hid hb
    clear hb
    go_enter Try.func46, Try.ntmps46
    go_wp2_with fail
    go_ret
    exact ⟨ret_bool HB.out.symm, (Below.refl _ _).alloc (Nat.le_refl _) _⟩

def orE (a b : Int) : Int := if a ≠ 0 then a else b

end Go.Proofs.Ytdacdiigeainmaa
