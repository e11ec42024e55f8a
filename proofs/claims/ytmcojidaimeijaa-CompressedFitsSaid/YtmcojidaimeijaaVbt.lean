/- MomentFault, EveryFault, AMoment. EveryFault: for a right window. -/
import Derived.Test.YtmcojidaimeijaaDist
import Derived.Test.YtmcojidaimeijaaWinb
import Derived.Test.YtmcojidaimeijaaKmm
import Derived.Test.YtmcojidaimeijaaKwm
namespace Go.Proofs.Ytmcojidaimeijaa
open Go.RowKit
set_option linter.unusedVariables false
set_option linter.unusedSimpArgs false

def momE (at' : Int) : Int := if inB at' 0 345686399999 = false then 1 else 0
def evE (f t ev : Int) : Int := if inB ev 1 86400000 = false then 1 else if 5000 * ev < t - f then 2 else 0
theorem spanErr_eq (n lo hi : Int) : spanErr n lo hi = if inB n lo hi = false then 1 else 0 := by unfold spanErr; cases inB n lo hi <;> rfl

theorem quo_large (d ev : Int) (he : 1 ≤ ev) : (5000 < (d + ev - 1) / ev) ↔ 5000 * ev < d := by
  rw [show (5000 < (d + ev - 1) / ev ↔ 5000 * ev < d) ↔ (5001 ≤ (d + ev - 1) / ev ↔ 5000 * ev < d) from Iff.rfl, Int.le_ediv_iff_mul_le (by omega)]
  omega

theorem everyFault_any (f t ev : Int) (w : World) (hW : 0 ≤ f ∧ f ≤ t ∧ t ≤ 345686400000) (hv : 0 ≤ ev ∧ ev ≤ 86400001) :
    Calls Try.prog 34 #[.agg #[.int .i64 f, .int .i64 t], .int .i64 ev] w fun e w' => e = .returned (.int .i64 (evE f t ev)) ∧ Below w.heap.size w w' := by
  have hs := fun w => spanFault_any ev 1 86400000 w
  have hd : evE f t ev = if inB ev 1 86400000 = false then 1 else if 5000 * ev < t - f then 2 else 0 := rfl
  generalize evE f t ev = E at *
  have HD := Lib.hid hd
  have hb0 := Blk.new w 43 #[.int .i64 f, .int .i64 t]
  have hbw : Below w.heap.size w (w.alloc (.cells #[.int .i64 f, .int .i64 t] 43)) := (Below.refl _ w).alloc (Nat.le_refl _) _
  clear hd
  by_cases hin : inB ev 1 86400000 = true
  · have hz : spanErr ev 1 86400000 = 0 := by unfold spanErr; rw [if_pos hin]
    rw [hz] at hs
    have h1 : 1 ≤ ev := (inB_true.1 hin).1
    have hq := quo_large (t - f) ev h1
    have HD2 := Lib.hid (show E = if 5000 * ev < t - f then 2 else 0 by rw [HD.out, if_neg (by rw [hin]; decide)])
    have hsum : t - f + ev - 1 ≤ 346000000000 := by omega
    clear hz hin
    go_enter Try.func34, Try.ntmps34
    go_upto_region 1 with fail
    generalize w.alloc (.cells #[.int .i64 f, .int .i64 t] 43) = wz at *
    have e0 := hb0.cell 0
    have e1 := hb0.cell 1
    clear hb0
    go_wp2_with (go_at_call 67; refine (hs _).mono ?_; rintro e w' ⟨rfl, rfl⟩)
    all_goals go_ret
    all_goals exact ⟨ret_int (by rw [HD2.out]; split <;> omega), hbw⟩
  · have hin' : inB ev 1 86400000 = false := by simpa using hin
    have hz : spanErr ev 1 86400000 = 1 := by unfold spanErr; rw [if_neg hin]
    rw [hz] at hs
    have HD2 := Lib.hid (show E = 1 by rw [HD.out, if_pos hin'])
    clear hin hin' hz
    go_enter Try.func34, Try.ntmps34
    go_wp2_with (go_at_call 67; refine (hs _).mono ?_; rintro e w' ⟨rfl, rfl⟩)
    go_ret
    exact ⟨ret_int HD2.out.symm, hbw⟩
end Go.Proofs.Ytmcojidaimeijaa
