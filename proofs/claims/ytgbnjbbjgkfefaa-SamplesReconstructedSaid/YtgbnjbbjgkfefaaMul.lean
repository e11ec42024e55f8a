/- The contracts of math/bits.Mul64, and of what compares fractions by it (package compress, and the reference). -/
import Derived.Test.YtgbnjbbjgkfefaaDiv
import Derived.Test.YtgbnjbbjgkfefaaMulb
namespace Go.Proofs.Ytgbnjbbjgkfefaa
open Go.RowKit
set_option linter.unusedVariables false
set_option linter.unusedSimpArgs false

/-- Is the fraction a less than b, both from 0 on? -/
def lessF (a b : Int × Int) : Bool := decide (a.1 * b.2 < b.1 * a.2)
theorem lessF_nat (a b c d : Nat) : lessF ((a : Int), (b : Int)) ((c : Int), (d : Int)) = decide (a * d < c * b) := by
  unfold lessF
  simp only [decide_eq_decide, ← Int.natCast_mul]
  omega

set_option maxRecDepth 100000 in
set_option maxHeartbeats 2000000 in
theorem mulLess_any (a b c d : Nat) (w : World) (ha : a ≤ 9223372036854775807) (hb : b ≤ 9223372036854775807) (hc : c ≤ 9223372036854775807) (hd : d ≤ 9223372036854775807) :
    Calls Try.prog 141 #[.int .i64 (a : Int), .int .i64 (b : Int), .int .i64 (c : Int), .int .i64 (d : Int)] w fun e w' => e = .returned (.bool (decide (a * b < c * d))) ∧ w = w' := by
  have w1 : IntKind.u64.wrap (a : Int) = (a : Int) := Mul64.wrapN a (by omega)
  have w2 : IntKind.u64.wrap (b : Int) = (b : Int) := Mul64.wrapN b (by omega)
  have w3 : IntKind.u64.wrap (c : Int) = (c : Int) := Mul64.wrapN c (by omega)
  have w4 : IntKind.u64.wrap (d : Int) = (d : Int) := Mul64.wrapN d (by omega)
  have m1 := fun w => mul64_any a b (by omega) (by omega) w
  have m2 := fun w => mul64_any c d (by omega) (by omega) w
  generalize hx : a * b = x at *
  generalize hy : c * d = y at *
  clear hx hy
  have hE : ∃ E, E = decide (x < y) := ⟨_, rfl⟩
  obtain ⟨E, hE⟩ := hE
  rw [← hE]
  have HE := Lib.hid hE
  generalize hh1 : x / 18446744073709551616 = h1 at *
  generalize hh2 : y / 18446744073709551616 = h2 at *
  generalize hl1 : x % 18446744073709551616 = l1 at *
  generalize hl2 : y % 18446744073709551616 = l2 at *
  have H := Lib.hid (And.intro hh1 (And.intro hh2 (And.intro hl1 hl2)))
  clear hh1 hh2 hl1 hl2
  have M1 := Lib.hid m1
  have M2 := Lib.hid m2
  clear m1 m2 hE
  go_enter Try.func141, Try.ntmps141
  go_wp2_with fail
  refine (M1.out _).mono ?_
  rintro e w1 ⟨rfl, rfl⟩
  go_wp2_with fail
  refine (M2.out _).mono ?_
  rintro e w1 ⟨rfl, rfl⟩
  by_cases q1 : (h1 : Int) < (h2 : Int)
  · have q1' : decide ((h1 : Int) < (h2 : Int)) = true := by simpa using q1
    go_wp2_with fail
    go_ret
    exact ⟨ret_bool (by rw [HE.out]; obtain ⟨g1, g2, g3, g4⟩ := H.out; symm; simp; omega), rfl⟩
  · have q1' : decide ((h1 : Int) < (h2 : Int)) = false := by simpa using q1
    by_cases q2 : (h1 : Int) = (h2 : Int)
    · have q2' : ((h1 : Int) == (h2 : Int)) = true := by simpa using q2
      go_wp2_with fail
      go_ret
      exact ⟨ret_bool (by rw [HE.out]; obtain ⟨g1, g2, g3, g4⟩ := H.out; simp only [decide_eq_decide]; omega), rfl⟩
    · have q2' : ((h1 : Int) == (h2 : Int)) = false := by simpa using q2
      go_wp2_with fail
      go_ret
      exact ⟨ret_bool (by rw [HE.out]; obtain ⟨g1, g2, g3, g4⟩ := H.out; symm; simp; omega), rfl⟩

set_option maxRecDepth 100000 in
set_option maxHeartbeats 2000000 in
theorem less_any (a b c d : Nat) (w : World) (ha : a ≤ 9223372036854775807) (hb : b ≤ 9223372036854775807) (hc : c ≤ 9223372036854775807) (hd : d ≤ 9223372036854775807) :
    Calls Try.prog 105 #[.agg #[.int .i64 (a : Int), .int .i64 (b : Int)], .agg #[.int .i64 (c : Int), .int .i64 (d : Int)]] w fun e w' => e = .returned (.bool (decide (a * d < c * b))) ∧ Below w.heap.size w w' := by
  have w1 : IntKind.u64.wrap (a : Int) = (a : Int) := Mul64.wrapN a (by omega)
  have w2 : IntKind.u64.wrap (b : Int) = (b : Int) := Mul64.wrapN b (by omega)
  have w3 : IntKind.u64.wrap (c : Int) = (c : Int) := Mul64.wrapN c (by omega)
  have w4 : IntKind.u64.wrap (d : Int) = (d : Int) := Mul64.wrapN d (by omega)
  have m1 := fun w => mul64_any a d (by omega) (by omega) w
  have m2 := fun w => mul64_any c b (by omega) (by omega) w
  generalize hx : a * d = x at *
  generalize hy : c * b = y at *
  clear hx hy
  have hE : ∃ E, E = decide (x < y) := ⟨_, rfl⟩
  obtain ⟨E, hE⟩ := hE
  rw [← hE]
  have HE := Lib.hid hE
  generalize hh1 : x / 18446744073709551616 = h1 at *
  generalize hh2 : y / 18446744073709551616 = h2 at *
  generalize hl1 : x % 18446744073709551616 = l1 at *
  generalize hl2 : y % 18446744073709551616 = l2 at *
  have H := Lib.hid (And.intro hh1 (And.intro hh2 (And.intro hl1 hl2)))
  clear hh1 hh2 hl1 hl2
  have M1 := Lib.hid m1
  have M2 := Lib.hid m2
  clear m1 m2 hE
  go_enter Try.func105, Try.ntmps105
  go_wp2_with fail
  refine (M1.out _).mono ?_
  rintro e w1 ⟨rfl, rfl⟩
  go_wp2_with fail
  refine (M2.out _).mono ?_
  rintro e w1 ⟨rfl, rfl⟩
  have hbw : Below w.heap.size w ((w.alloc (.cells #[.int .i64 (a : Int), .int .i64 (b : Int)] 57)).alloc (.cells #[.int .i64 (c : Int), .int .i64 (d : Int)] 57)) := ((Below.refl _ w).alloc (Nat.le_refl _) _).alloc (by simp) _
  by_cases q1 : (h1 : Int) < (h2 : Int)
  · have q1' : decide ((h1 : Int) < (h2 : Int)) = true := by simpa using q1
    go_wp2_with fail
    go_ret
    exact ⟨ret_bool (by rw [HE.out]; obtain ⟨g1, g2, g3, g4⟩ := H.out; symm; simp; omega), hbw⟩
  · have q1' : decide ((h1 : Int) < (h2 : Int)) = false := by simpa using q1
    by_cases q2 : (h1 : Int) = (h2 : Int)
    · have q2' : ((h1 : Int) == (h2 : Int)) = true := by simpa using q2
      go_wp2_with fail
      go_ret
      exact ⟨ret_bool (by rw [HE.out]; obtain ⟨g1, g2, g3, g4⟩ := H.out; simp only [decide_eq_decide]; omega), hbw⟩
    · have q2' : ((h1 : Int) == (h2 : Int)) = false := by simpa using q2
      go_wp2_with fail
      go_ret
      exact ⟨ret_bool (by rw [HE.out]; obtain ⟨g1, g2, g3, g4⟩ := H.out; symm; simp; omega), hbw⟩
end Go.Proofs.Ytgbnjbbjgkfefaa
