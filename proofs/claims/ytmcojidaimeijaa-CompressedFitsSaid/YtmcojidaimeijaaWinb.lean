/- Windows: their checks in package basic and in the reference. -/
import Derived.Test.YtmcojidaimeijaaSerr
namespace Go.Proofs.Ytmcojidaimeijaa
open Go.RowKit
set_option linter.unusedVariables false
set_option linter.unusedSimpArgs false

def winB (f t : Int) : Bool := decide (0 ≤ f ∧ f ≤ t ∧ t ≤ 345686400000)
def winErr (f t : Int) : Int := if winB f t = true then 0 else 1
theorem winB_true {f t : Int} : winB f t = true ↔ (0 ≤ f ∧ f ≤ t ∧ t ≤ 345686400000) := by simp [winB]

set_option maxHeartbeats 1000000 in
theorem window_any (f t : Int) (w : World) : Calls Try.prog 104 #[.agg #[.int .i64 f, .int .i64 t]] w fun e w' => e = .returned (.bool (winB f t)) ∧ Below w.heap.size w w' := by
  by_cases h1 : 0 ≤ f
  · by_cases h2 : f ≤ t
    · by_cases h3 : t ≤ 345686400000
      · have hb : winB f t = true := winB_true.2 ⟨h1, h2, h3⟩
        have HB := Lib.hid hb
        clear hb
        go_enter Try.func104, Try.ntmps104
        go_wp2_with fail
        go_ret
        exact ⟨ret_bool HB.out.symm, (Below.refl _ _).alloc (Nat.le_refl _) _⟩
      · have hb : winB f t = false := by rw [← Bool.not_eq_true, winB_true]; omega
        have HB := Lib.hid hb
        clear hb
        go_enter Try.func104, Try.ntmps104
        go_wp2_with fail
        go_ret
        exact ⟨ret_bool HB.out.symm, (Below.refl _ _).alloc (Nat.le_refl _) _⟩
    · have hb : winB f t = false := by rw [← Bool.not_eq_true, winB_true]; omega
      have HB := Lib.hid hb
      clear hb
      go_enter Try.func104, Try.ntmps104
      go_wp2_with fail
      go_ret
      exact ⟨ret_bool HB.out.symm, (Below.refl _ _).alloc (Nat.le_refl _) _⟩
  · have hb : winB f t = false := by rw [← Bool.not_eq_true, winB_true]; omega
    have HB := Lib.hid hb
    clear hb
    go_enter Try.func104, Try.ntmps104
    go_wp2_with fail
    go_ret
    exact ⟨ret_bool HB.out.symm, (Below.refl _ _).alloc (Nat.le_refl _) _⟩

set_option maxHeartbeats 1000000 in
theorem windowFault_any (f t : Int) (w : World) : Calls Try.prog 33 #[.agg #[.int .i64 f, .int .i64 t]] w fun e w' => e = .returned (.int .i64 (winErr f t)) ∧ Below w.heap.size w w' := by
  have hfin : winErr f t = if inB f 0 t = false ∨ 345686400000 < t then 1 else 0 := by
    unfold winErr
    by_cases h : winB f t = true
    · rw [if_pos h, if_neg]
      have := winB_true.1 h
      rw [inB_false]; omega
    · rw [if_neg h, if_pos]
      rw [winB_true] at h
      rw [inB_false]; omega
  generalize winErr f t = F at *
  have HF := Lib.hid hfin
  clear hfin
  go_enter Try.func33, Try.ntmps33
  go_wp2_with (go_at_call 77; refine (in_any _ _ _ _).mono ?_; rintro e w' ⟨rfl, rfl⟩)
  all_goals go_ret
  all_goals exact ⟨ret_int (by rw [HF.out]; simp_all), (Below.refl _ _).alloc (Nat.le_refl _) _⟩

def orE (a b : Int) : Int := if a ≠ 0 then a else b

end Go.Proofs.Ytmcojidaimeijaa
