/- The contracts of CheckException (package compress) and of the reference's ExceptionFault. -/
import Derived.Test.YtgbnjbbjgkfefaaDist
namespace Go.Proofs.Ytgbnjbbjgkfefaa
open Go.RowKit
set_option linter.unusedVariables false
set_option linter.unusedSimpArgs false

set_option maxHeartbeats 1000000 in
theorem checkException_any (d m : Int) (w : World) : Calls Try.prog 12 #[.agg #[.int .i64 d, .int .i64 m]] w fun e w' => e = .returned (.int .i64 (doorErr d m)) ∧ Below w.heap.size w w' := by
  go_enter Try.func12, Try.ntmps12
  go_wp2_with (go_at_call 80; refine (checkRange_any _ _ _).mono ?_; rintro e w' ⟨rfl, rfl⟩)
  go_ret
  exact ⟨rfl, (Below.refl _ w).alloc (Nat.le_refl _) _⟩
set_option maxRecDepth 100000 in
set_option maxHeartbeats 2000000 in
theorem exceptionFault_any (d m : Int) (w : World) : Calls Try.prog 13 #[.agg #[.int .i64 d, .int .i64 m]] w fun e w' => e = .returned (.int .i64 (doorErr d m)) ∧ Below w.heap.size w w' := by
  have hfin := doorErr_or d m
  generalize doorErr d m = E at *
  have HF := Lib.hid hfin
  clear hfin
  go_enter Try.func13, Try.ntmps13
  go_wp2_with fail
  go_region_with (first
    | (go_at_call 71; refine (spanFault_any _ _ _ _).mono ?_; rintro e wk ⟨rfl, rfl⟩)
    | (go_at_call 17; refine (or2_any _ _ _ _ (by first | exact (Blk.new1 _ _ _ _).drew | exact Blk.new1 _ _ _ _)).mono ?_; rintro e wk ⟨rfl, rfl⟩))
  all_goals go_wp2_with fail
  all_goals go_ret
  all_goals exact ⟨ret_int HF.out, by first | exact (((Below.refl _ w).alloc (Nat.le_refl _) _).alloc (by simp) _) | exact bdrewN (((Below.refl _ w).alloc (Nat.le_refl _) _).alloc (by simp) _) 1⟩
end Go.Proofs.Ytgbnjbbjgkfefaa
