/- MomentFault, EveryFault, AMoment. EveryFault: for a right window. -/
import Derived.Test.YtamcbiajicnbfaaDist
import Derived.Test.YtamcbiajicnbfaaWinb
import Derived.Test.YtamcbiajicnbfaaKmm
import Derived.Test.YtamcbiajicnbfaaKwm
namespace Go.Proofs.Ytamcbiajicnbfaa
open Go.RowKit
set_option linter.unusedVariables false
set_option linter.unusedSimpArgs false

def momE (at' : Int) : Int := if inB at' 0 345686399999 = false then 1 else 0
def evE (f t ev : Int) : Int := if inB ev 1 86400000 = false then 1 else if 5000 * ev < t - f then 2 else 0
theorem spanErr_eq (n lo hi : Int) : spanErr n lo hi = if inB n lo hi = false then 1 else 0 := by unfold spanErr; cases inB n lo hi <;> rfl

theorem momentFault_any (n : Int) (w : World) : Calls Try.prog 40 #[.int .i64 n] w fun e w' => e = .returned (.int .i64 (momE n)) ∧ w = w' := by
  have hs := fun w => spanFault_any n 0 345686399999 w
  rw [spanErr_eq] at hs
  have hd : momE n = if inB n 0 345686399999 = false then 1 else 0 := rfl
  rw [hd]
  clear hd
  generalize (if inB n 0 345686399999 = false then (1 : Int) else 0) = X at *
  go_enter Try.func40, Try.ntmps40
  go_wp2_with (go_at_call 83; refine (hs _).mono ?_; rintro e w' ⟨rfl, rfl⟩)
  go_ret
  exact ⟨rfl, rfl⟩

theorem quo_large (d ev : Int) (he : 1 ≤ ev) : (5000 < (d + ev - 1) / ev) ↔ 5000 * ev < d := by
  rw [show (5000 < (d + ev - 1) / ev ↔ 5000 * ev < d) ↔ (5001 ≤ (d + ev - 1) / ev ↔ 5000 * ev < d) from Iff.rfl, Int.le_ediv_iff_mul_le (by omega)]
  omega

theorem aMoment_went (w : World) (g : Nat) (L : List Int) (A : Option Addr) (cap k : Nat) (hS : Strm w g L A cap k) (hk : k ≤ 800000000) :
    Calls Try.prog 35 #[.pointer (some ⟨g, 0, none⟩)] w fun e w' => ∃ x : Int, e = .returned (.int .i64 x) ∧ (-1 ≤ x ∧ x ≤ 345686400000) ∧ Went w g L A cap (k + 2) w' := by
  have hlt0 := hS.lt
  go_enter Try.func35, Try.ntmps35
  go_wp2_with fail
  refine (pick_new _ _ g L A cap k [-1, 345686400000] hS rfl (by omega) (by simp)).mono ?_
  rintro e w1 ⟨rfl, hw1⟩
  have hm1 := pk_mem [-1, 345686400000] L k (by simp)
  simp only [List.mem_cons, List.not_mem_nil, or_false] at hm1
  generalize pk [-1, 345686400000] L k = y at *
  have hy : -1 ≤ y ∧ y ≤ 345686400000 := by omega
  clear hm1
  go_wp2_with fail
  refine (pick_new _ _ g L A cap (k + 1) [0, 1, 5, 12, 40, 41, 60, 100, 200, y] hw1.1 rfl (by omega) (by simp)).mono ?_
  rintro e w2 ⟨rfl, hw2⟩
  have hm2 := pk_mem [0, 1, 5, 12, 40, 41, 60, 100, 200, y] L (k + 1) (by simp)
  simp only [List.mem_cons, List.not_mem_nil, or_false] at hm2
  generalize pk [0, 1, 5, 12, 40, 41, 60, 100, 200, y] L (k + 1) = x at *
  go_wp2_with fail
  go_ret
  exact ⟨x, rfl, by omega, hw2.1, hw1.2.trans hw2.2⟩

theorem everyFault_any (f t ev : Int) (w : World) (hW : 0 ≤ f ∧ f ≤ t ∧ t ≤ 345686400000) (hv : 0 ≤ ev ∧ ev ≤ 86400001) :
    Calls Try.prog 57 #[.agg #[.int .i64 f, .int .i64 t], .int .i64 ev] w fun e w' => e = .returned (.int .i64 (evE f t ev)) ∧ Below w.heap.size w w' := by
  have hs := fun w => spanFault_any ev 1 86400000 w
  have hd : evE f t ev = if inB ev 1 86400000 = false then 1 else if 5000 * ev < t - f then 2 else 0 := rfl
  generalize evE f t ev = E at *
  have HD := Lib.hid hd
  have hb0 := Blk.new w 82 #[.int .i64 f, .int .i64 t]
  have hbw : Below w.heap.size w (w.alloc (.cells #[.int .i64 f, .int .i64 t] 82)) := (Below.refl _ w).alloc (Nat.le_refl _) _
  clear hd
  by_cases hin : inB ev 1 86400000 = true
  · have hz : spanErr ev 1 86400000 = 0 := by unfold spanErr; rw [if_pos hin]
    rw [hz] at hs
    have h1 : 1 ≤ ev := (inB_true.1 hin).1
    have hq := quo_large (t - f) ev h1
    have HD2 := Lib.hid (show E = if 5000 * ev < t - f then 2 else 0 by rw [HD.out, if_neg (by rw [hin]; decide)])
    have hsum : t - f + ev - 1 ≤ 346000000000 := by omega
    clear hz hin
    go_enter Try.func57, Try.ntmps57
    go_upto_region 1 with fail
    generalize w.alloc (.cells #[.int .i64 f, .int .i64 t] 82) = wz at *
    have e0 := hb0.cell 0
    have e1 := hb0.cell 1
    clear hb0
    go_wp2_with (go_at_call 83; refine (hs _).mono ?_; rintro e w' ⟨rfl, rfl⟩)
    all_goals go_ret
    all_goals exact ⟨ret_int (by rw [HD2.out]; split <;> omega), hbw⟩
  · have hin' : inB ev 1 86400000 = false := by simpa using hin
    have hz : spanErr ev 1 86400000 = 1 := by unfold spanErr; rw [if_neg hin]
    rw [hz] at hs
    have HD2 := Lib.hid (show E = 1 by rw [HD.out, if_pos hin'])
    clear hin hin' hz
    go_enter Try.func57, Try.ntmps57
    go_wp2_with (go_at_call 83; refine (hs _).mono ?_; rintro e w' ⟨rfl, rfl⟩)
    go_ret
    exact ⟨ret_int HD2.out.symm, hbw⟩
end Go.Proofs.Ytamcbiajicnbfaa
