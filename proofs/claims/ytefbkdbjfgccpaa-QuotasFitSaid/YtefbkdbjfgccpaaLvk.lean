/- The contracts of steps and of what levels cost (package retain and its reference). -/
import Derived.Test.YtefbkdbjfgccpaaLvm
import Derived.Test.YtefbkdbjfgccpaaLvv
import Derived.Test.YtefbkdbjfgccpaaSer
import Derived.Deep.QuietTactic
namespace Go.Proofs.Ytefbkdbjfgccpaa
open Go.RowKit
set_option linter.unusedVariables false
set_option linter.unusedSimpArgs false

theorem rem_bounds (n : Int) (h : 1 ≤ n) : 0 ≤ (86400000 : Int).tmod n ∧ (86400000 : Int).tmod n ≤ 86400000 := by
  rw [Int.tmod_eq_emod_of_nonneg (by omega)]
  have h1 := Int.emod_nonneg 86400000 (b := n) (by omega)
  have h2 := Int.ediv_nonneg (a := 86400000) (b := n) (by omega) (by omega)
  have h3 := Int.emod_add_mul_ediv 86400000 n
  have h4 := Int.mul_nonneg (show 0 ≤ n from by omega) h2
  generalize n * (86400000 / n) = P at *
  omega

set_option maxHeartbeats 1000000 in
theorem isStep_any (n : Int) (w : World) : Calls Try.prog 34 #[.int .i64 n] w fun e w' => e = .returned (.bool (stepB n)) ∧ w = w' := by
  have hd : stepB n = (inB n 1 86400000 && decide ((86400000 : Int) % n = 0)) := rfl
  cases hi : inB n 1 86400000 with
  | true =>
    have h1 := inB_true.1 hi
    have hr := rem_bounds n h1.1
    have HI := Lib.hid hi
    have HD := Lib.hid hd
    clear hi hd
    go_enter Try.func34, Try.ntmps34
    go_wp2_with (go_at_call 19; refine (within_any _ _ _ _).mono ?_; rintro e w' ⟨rfl, rfl⟩; have hi' := HI.out)
    go_ret
    exact ⟨ret_bool (by rw [HD.out, HI.out]; simp <;> rfl), rfl⟩
  | false =>
    have HI := Lib.hid hi
    have HD := Lib.hid hd
    clear hi hd
    go_enter Try.func34, Try.ntmps34
    go_wp2_with (go_at_call 19; refine (within_any _ _ _ _).mono ?_; rintro e w' ⟨rfl, rfl⟩; have hi' := HI.out)
    go_ret
    exact ⟨ret_bool (by rw [HD.out, HI.out]; simp), rfl⟩
set_option maxHeartbeats 1000000 in
theorem rStep_any (n : Int) (w : World) : Calls Try.prog 23 #[.int .i64 n] w fun e w' => e = .returned (.bool (stepB n)) ∧ w = w' := by
  have hd : stepB n = (inB n 1 86400000 && decide ((86400000 : Int) % n = 0)) := rfl
  cases hi : inB n 1 86400000 with
  | true =>
    have h1 := inB_true.1 hi
    have hr := rem_bounds n h1.1
    have HI := Lib.hid hi
    have HD := Lib.hid hd
    clear hi hd
    go_enter Try.func23, Try.ntmps23
    go_wp2_with (go_at_call 24; refine (in_any _ _ _ _).mono ?_; rintro e w' ⟨rfl, rfl⟩; have hi' := HI.out)
    go_ret
    exact ⟨ret_bool (by rw [HD.out, HI.out]; simp <;> rfl), rfl⟩
  | false =>
    have HI := Lib.hid hi
    have HD := Lib.hid hd
    clear hi hd
    go_enter Try.func23, Try.ntmps23
    go_wp2_with (go_at_call 24; refine (in_any _ _ _ _).mono ?_; rintro e w' ⟨rfl, rfl⟩; have hi' := HI.out)
    go_ret
    exact ⟨ret_bool (by rw [HD.out, HI.out]; simp), rfl⟩

theorem up_bound {a b : Int} (hb : 1 ≤ b) (ha : 0 ≤ a) : 0 ≤ (a + b - 1).tdiv b ∧ (a + b - 1).tdiv b ≤ a + b - 1 := by
  rw [Int.tdiv_eq_ediv_of_nonneg (by omega)]
  exact ⟨Int.ediv_nonneg (by omega) (by omega), Int.ediv_le_self b (by omega)⟩
set_option maxHeartbeats 1000000 in
theorem roundedUp_any (a b : Int) (ha : 0 ≤ a ∧ a ≤ 1000000000000000000) (hb : 1 ≤ b ∧ b ≤ 1000000000000) (w : World) : Calls Try.prog 31 #[.int .i64 a, .int .i64 b] w fun e w' => e = .returned (.int .i64 ((a + b - 1).tdiv b)) ∧ w = w' := by
  have h := up_bound hb.1 ha.1
  go_enter Try.func31, Try.ntmps31
  go_wp2_with fail
  go_ret
  exact ⟨rfl, rfl⟩
set_option maxHeartbeats 1000000 in
theorem rup_any (a b : Int) (ha : 0 ≤ a ∧ a ≤ 1000000000000000000) (hb : 1 ≤ b ∧ b ≤ 1000000000000) (w : World) : Calls Try.prog 32 #[.int .i64 a, .int .i64 b] w fun e w' => e = .returned (.int .i64 ((a + b - 1).tdiv b)) ∧ w = w' := by
  have h := up_bound hb.1 ha.1
  go_enter Try.func32, Try.ntmps32
  go_wp2_with fail
  go_ret
  exact ⟨rfl, rfl⟩

theorem prod_bounds {rate k : Int} (hr : 1 ≤ rate ∧ rate ≤ 1000000) (hk : 1 ≤ k ∧ k ≤ 345686400000) : 0 ≤ k * rate ∧ k * rate ≤ 345686400000000000 := by
  have h4 : 0 ≤ k * rate := Int.mul_nonneg (by omega) (by omega)
  have h5 : k * rate ≤ 345686400000 * 1000000 := Int.mul_le_mul hk.2 hr.2 (by omega) (by omega)
  omega
set_option maxHeartbeats 1000000 in
theorem costOf_any (x : Int × Int) (rate : Int) (hr : 1 ≤ rate ∧ rate ≤ 1000000) (hx : LvOk x) (w : World) :
    Calls Try.prog 20 #[.agg #[.int .i64 x.1, .int .i64 x.2], .int .i64 rate] w fun e w' => e = .returned (.int .i64 (lvCost rate x)) ∧ Below w.heap.size w w' := by
  have hc := cost_bounds hr hx
  obtain ⟨s, k⟩ := x
  obtain ⟨h1, h2⟩ := hx
  simp only at h1 h2
  have hp := prod_bounds hr h2
  have hd : lvCost rate (s, k) = if s = 0 then (k * rate + 3600000 - 1).tdiv 3600000 else (k + s - 1).tdiv s + 1 := rfl
  by_cases h0 : s = 0
  · subst h0
    rw [if_pos rfl] at hd
    generalize lvCost rate (0, k) = C at *
    have HD := Lib.hid hd
    have HA := Lib.hid (fun W => roundedUp_any (k * rate) 3600000 ⟨hp.1, by omega⟩ (by omega) W)
    have hwp : IntKind.i64.wrap (k * rate) = k * rate := IntWalk.i64_in _ (by omega)
    clear hd
    go_enter Try.func20, Try.ntmps20
    go_wp2_with fail
    refine (HA.out _).mono ?_
    rintro e w' ⟨rfl, rfl⟩
    go_wp2_with fail
    go_ret
    exact ⟨ret_int HD.out.symm, (Below.refl _ _).alloc (Nat.le_refl _) _⟩
  · have hs : 1 ≤ s ∧ s ≤ 86400000 := by omega
    rw [if_neg h0] at hd
    generalize lvCost rate (s, k) = C at *
    have hq : (k + s - 1).tdiv s = C - 1 := by omega
    have HD := Lib.hid hd
    have HA := Lib.hid (fun W => roundedUp_any k s (by omega) (by omega) W)
    rw [hq] at HA
    clear hd hq
    go_enter Try.func20, Try.ntmps20
    go_wp2_with fail
    refine (HA.out _).mono ?_
    rintro e w' ⟨rfl, rfl⟩
    have hwc : IntKind.i64.wrap (C - 1 + 1) = C := by rw [show C - 1 + 1 = C from by omega]; exact IntWalk.i64_in _ (by omega)
    go_wp2_with fail
    go_ret
    exact ⟨ret_int (by omega), (Below.refl _ _).alloc (Nat.le_refl _) _⟩
set_option maxHeartbeats 1000000 in
theorem rcostOf_any (x : Int × Int) (rate : Int) (hr : 1 ≤ rate ∧ rate ≤ 1000000) (hx : LvOk x) (w : World) :
    Calls Try.prog 25 #[.agg #[.int .i64 x.1, .int .i64 x.2], .int .i64 rate] w fun e w' => e = .returned (.int .i64 (lvCost rate x)) ∧ Below w.heap.size w w' := by
  have hc := cost_bounds hr hx
  obtain ⟨s, k⟩ := x
  obtain ⟨h1, h2⟩ := hx
  simp only at h1 h2
  have hp := prod_bounds hr h2
  have hd : lvCost rate (s, k) = if s = 0 then (k * rate + 3600000 - 1).tdiv 3600000 else (k + s - 1).tdiv s + 1 := rfl
  by_cases h0 : s = 0
  · subst h0
    rw [if_pos rfl] at hd
    generalize lvCost rate (0, k) = C at *
    have HD := Lib.hid hd
    have HA := Lib.hid (fun W => rup_any (k * rate) 3600000 ⟨hp.1, by omega⟩ (by omega) W)
    have hwp : IntKind.i64.wrap (k * rate) = k * rate := IntWalk.i64_in _ (by omega)
    clear hd
    go_enter Try.func25, Try.ntmps25
    go_wp2_with fail
    refine (HA.out _).mono ?_
    rintro e w' ⟨rfl, rfl⟩
    go_wp2_with fail
    go_ret
    exact ⟨ret_int HD.out.symm, (Below.refl _ _).alloc (Nat.le_refl _) _⟩
  · have hs : 1 ≤ s ∧ s ≤ 86400000 := by omega
    rw [if_neg h0] at hd
    generalize lvCost rate (s, k) = C at *
    have hq : (k + s - 1).tdiv s = C - 1 := by omega
    have HD := Lib.hid hd
    have HA := Lib.hid (fun W => rup_any k s (by omega) (by omega) W)
    rw [hq] at HA
    clear hd hq
    go_enter Try.func25, Try.ntmps25
    go_wp2_with fail
    refine (HA.out _).mono ?_
    rintro e w' ⟨rfl, rfl⟩
    have hwc : IntKind.i64.wrap (C - 1 + 1) = C := by rw [show C - 1 + 1 = C from by omega]; exact IntWalk.i64_in _ (by omega)
    go_wp2_with fail
    go_ret
    exact ⟨ret_int (by omega), (Below.refl _ _).alloc (Nat.le_refl _) _⟩

theorem lng_bounds {rate s q : Int} (hr : 1 ≤ rate ∧ rate ≤ 1000000) (hs : s = 0 ∨ 1 ≤ s ∧ s ≤ 86400000) (hq : 0 ≤ q ∧ q ≤ 1000000) : -86400000 ≤ lng rate s q ∧ lng rate s q ≤ 100000000000000 := by
  unfold lng
  split
  · rw [Int.tdiv_eq_ediv_of_nonneg (by omega)]
    have h1 := Int.ediv_nonneg (show 0 ≤ q * 3600000 from by omega) (show 0 ≤ rate from by omega)
    have h2 := Int.ediv_le_self rate (show 0 ≤ q * 3600000 from by omega)
    omega
  · rcases hs with h | ⟨h1, h2⟩
    · omega
    · have h3 : -(1 : Int) * s ≤ (q - 1) * s := Int.mul_le_mul_of_nonneg_right (by omega) (by omega)
      have h4 : (q - 1) * s ≤ 1000000 * s := Int.mul_le_mul_of_nonneg_right (by omega) (by omega)
      omega
set_option maxHeartbeats 1000000 in
theorem longest_any (s rate q : Int) (hr : 1 ≤ rate ∧ rate ≤ 1000000) (hs : s = 0 ∨ 1 ≤ s ∧ s ≤ 86400000) (hq : 0 ≤ q ∧ q ≤ 1000000) (w : World) :
    Calls Try.prog 22 #[.int .i64 s, .int .i64 rate, .int .i64 q] w fun e w' => e = .returned (.int .i64 (lng rate s q)) ∧ w = w' := by
  have hb := lng_bounds hr hs hq
  have hd : lng rate s q = if s = 0 then (q * 3600000).tdiv rate else (q - 1) * s := rfl
  by_cases h0 : s = 0
  · subst h0
    rw [if_pos rfl] at hd
    have hd2 : (q * 3600000).tdiv rate = lng rate 0 q := hd.symm
    generalize lng rate 0 q = C at *
    rw [Int.tdiv_eq_ediv_of_nonneg (by omega)] at hd2
    have HD := Lib.hid hd2
    clear hd hd2
    go_enter Try.func22, Try.ntmps22
    go_wp2_with fail
    go_ret
    exact ⟨ret_int (by first | exact HD.out | (rw [Int.tdiv_eq_ediv_of_nonneg (by omega)]; exact HD.out)), rfl⟩
  · rw [if_neg h0] at hd
    generalize lng rate s q = C at *
    have hwm : IntKind.i64.wrap ((q - 1) * s) = C := by rw [← hd]; exact IntWalk.i64_in _ (by omega)
    have HD := Lib.hid hd
    clear hd
    go_enter Try.func22, Try.ntmps22
    go_wp2_with fail
    go_ret
    exact ⟨rfl, rfl⟩
end Go.Proofs.Ytefbkdbjfgccpaa
