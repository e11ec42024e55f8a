/- The contracts of the comparisons of samples (package sample), and of what collects samples. -/
import Derived.Test.YtjkncmhmmafmjaaClone
import Derived.StillTailTactics
namespace Go.Proofs.Ytjkncmhmmafmjaa
open Go.RowKit
set_option linter.unusedVariables false
set_option linter.unusedSimpArgs false

set_option maxHeartbeats 400000 in
theorem isNaN_any (x : Int) (w : World) : Calls Try.prog 87 #[.int .i64 x] w fun e w' => e = .returned (.bool false) ∧ w = w' := by
  have h : (x != x) = false := by simp
  go_enter Try.func87, Try.ntmps87
  go_wp2
  go_ret
  exact ⟨rfl, rfl⟩

def cmpI (x y : Int) : Int := if x < y then -1 else if y < x then 1 else 0
set_option maxHeartbeats 400000 in
theorem compare_any (x y : Int) (w : World) : Calls Try.prog 79 #[.int .i64 x, .int .i64 y] w fun e w' => e = .returned (.int .i64 (cmpI x y)) ∧ w = w' := by
  go_enter Try.func79, Try.ntmps79
  go_wp2_with (go_at_call 87; refine (isNaN_any _ _).mono ?_; rintro e w' ⟨rfl, rfl⟩)
  all_goals go_ret
  all_goals exact ⟨ret_int (by unfold cmpI; first | rw [if_pos (by omega)] | rw [if_neg (by omega), if_pos (by omega)] | rw [if_neg (by omega), if_neg (by omega)]), rfl⟩

set_option maxHeartbeats 400000 in
theorem byMoment_any (x y : Smp) (w : World) : Calls Try.prog 45 #[x.agg, y.agg] w fun e w' => e = .returned (.int .i64 (cmpI x.t y.t)) ∧ Below w.heap.size w w' := by
  unfold Smp.agg
  go_enter Try.func45, Try.ntmps45
  go_wp2_with (go_at_call 79; refine (compare_any _ _ _).mono ?_; rintro e w' ⟨rfl, rfl⟩)
  go_ret
  exact ⟨rfl, ((Below.refl _ w).alloc (Nat.le_refl _) _).alloc (by simp) _⟩

/-- Of two samples of one moment the one that is taken. -/
def better (x y : Smp) : Smp := if x.q < y.q ∨ (x.q = y.q ∧ y.v < x.v) then x else y

set_option maxRecDepth 100000 in
set_option maxHeartbeats 1000000 in
theorem better_any (x y : Smp) (w : World) : Calls Try.prog 47 #[x.agg, y.agg] w fun e w' => e = .returned (better x y).agg ∧ Below w.heap.size w w' := by
  have hfin : better x y = if x.q < y.q ∨ (x.q = y.q ∧ y.v < x.v) then x else y := rfl
  generalize better x y = z at *
  unfold Smp.agg
  have HF := Lib.hid hfin
  clear hfin
  by_cases h1 : x.q < y.q
  · have hz : z = x := by rw [HF.out, if_pos (.inl h1)]
    have HZ := Lib.hid hz
    clear hz
    go_enter Try.func47, Try.ntmps47
    go_wp2_with fail
    refine bodyPost_ret (v := .agg #[.int .i64 x.t, .int .i64 x.v, .int .i64 x.q]) (by simp [results, Try.results47, go_sem]) rfl ⟨by rw [HZ.out], (((Below.refl _ w).alloc (Nat.le_refl _) _).alloc (by simp) _).alloc (by simp; omega) _⟩
  · by_cases h2 : x.q = y.q
    · have h2' : (x.q == y.q) = true := by simpa using h2
      by_cases h3 : y.v < x.v
      · have hz : z = x := by rw [HF.out, if_pos (.inr ⟨h2, h3⟩)]
        have HZ := Lib.hid hz
        clear hz h2
        go_enter Try.func47, Try.ntmps47
        go_wp2_with fail
        refine bodyPost_ret (v := .agg #[.int .i64 x.t, .int .i64 x.v, .int .i64 x.q]) (by simp [results, Try.results47, go_sem]) rfl ⟨by rw [HZ.out], (((Below.refl _ w).alloc (Nat.le_refl _) _).alloc (by simp) _).alloc (by simp; omega) _⟩
      · have hz : z = y := by rw [HF.out, if_neg (by omega)]
        have HZ := Lib.hid hz
        clear hz h2
        go_enter Try.func47, Try.ntmps47
        go_wp2_with fail
        refine bodyPost_ret (v := .agg #[.int .i64 y.t, .int .i64 y.v, .int .i64 y.q]) (by simp [results, Try.results47, go_sem]) rfl ⟨by rw [HZ.out], (((Below.refl _ w).alloc (Nat.le_refl _) _).alloc (by simp) _).alloc (by simp; omega) _⟩
    · have h2' : (x.q == y.q) = false := by simpa using h2
      have hz : z = y := by rw [HF.out, if_neg (by omega)]
      have HZ := Lib.hid hz
      clear hz h2
      go_enter Try.func47, Try.ntmps47
      go_wp2_with fail
      refine bodyPost_ret (v := .agg #[.int .i64 y.t, .int .i64 y.v, .int .i64 y.q]) (by simp [results, Try.results47, go_sem]) rfl ⟨by rw [HZ.out], (((Below.refl _ w).alloc (Nat.le_refl _) _).alloc (by simp) _).alloc (by simp; omega) _⟩
end Go.Proofs.Ytjkncmhmmafmjaa
