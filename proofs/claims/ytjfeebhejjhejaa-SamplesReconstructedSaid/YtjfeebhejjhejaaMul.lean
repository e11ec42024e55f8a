/- The contracts of math/bits.Mul64, and of what compares fractions by it (package compress, and the reference). -/
import Derived.Test.YtjfeebhejjhejaaDiv
import Derived.Shelf.Bits.Mul64
namespace Go.Proofs.Ytjfeebhejjhejaa
open Go.RowKit
set_option linter.unusedVariables false
set_option linter.unusedSimpArgs false

set_option maxRecDepth 100000 in
set_option maxHeartbeats 2000000 in
theorem mul64_any (x y : Nat) (hx : x < 18446744073709551616) (hy : y < 18446744073709551616) (w : World) :
    Calls Try.prog 100 #[.int .u64 x, .int .u64 y] w fun e w' => e = .returned (.tuple #[.int .u64 ((x * y / 18446744073709551616 : Nat) : Int), .int .u64 ((x * y % 18446744073709551616 : Nat) : Int)]) ∧ w = w' := by
  obtain ⟨b1, b2, b3, hhi⟩ := Lib.mul64_hi x y hx hy
  have ba := Lib.half_mul_le (a := x / 4294967296) (b := y / 4294967296) (by omega) (by omega)
  have bb := Lib.half_mul_le (a := x / 4294967296) (b := y % 4294967296) (by omega) (by omega)
  have bc := Lib.half_mul_le (a := x % 4294967296) (b := y / 4294967296) (by omega) (by omega)
  have c1 : x / 4294967296 * (y / 4294967296) < 18446744073709551616 := by omega
  have c2 : x / 4294967296 * (y % 4294967296) < 18446744073709551616 := by omega
  have c3 : x % 4294967296 * (y / 4294967296) < 18446744073709551616 := by omega
  have c4 : x / 4294967296 * (y / 4294967296) + (x / 4294967296 * (y % 4294967296) + x % 4294967296 * (y % 4294967296) / 4294967296) / 4294967296 < 18446744073709551616 := by omega
  have c5 : x / 4294967296 * (y / 4294967296) + (x / 4294967296 * (y % 4294967296) + x % 4294967296 * (y % 4294967296) / 4294967296) / 4294967296 + ((x / 4294967296 * (y % 4294967296) + x % 4294967296 * (y % 4294967296) / 4294967296) % 4294967296 + x % 4294967296 * (y / 4294967296)) / 4294967296 < 18446744073709551616 := by omega
  go_enter Try.func100, Try.ntmps100
  go_wp2
  simp only [Mul64.maskN x hx, Mul64.maskN y hy, Mul64.divN, Mul64.mulN, Mul64.addN, Mul64.wrapN _ b1, Mul64.wrapN _ c2, Mul64.wrapN _ b2, Mul64.maskN _ b2, Mul64.wrapN _ c3, Mul64.wrapN _ b3, Mul64.wrapN _ c1, Mul64.wrapN _ c4, Mul64.wrapN _ c5, Mul64.wrapM (x * y)]
  rw [hhi]
  go_ret2
  exact ⟨rfl, rfl⟩

/-- Is the fraction a less than b, both from 0 on? -/
def lessF (a b : Int × Int) : Bool := decide (a.1 * b.2 < b.1 * a.2)
theorem lessF_nat (a b c d : Nat) : lessF ((a : Int), (b : Int)) ((c : Int), (d : Int)) = decide (a * d < c * b) := by
  unfold lessF
  simp only [decide_eq_decide, ← Int.natCast_mul]
  omega

set_option maxRecDepth 100000 in
set_option maxHeartbeats 2000000 in
theorem mulLess_any (a b c d : Nat) (w : World) (ha : a ≤ 9223372036854775807) (hb : b ≤ 9223372036854775807) (hc : c ≤ 9223372036854775807) (hd : d ≤ 9223372036854775807) :
    Calls Try.prog 94 #[.int .i64 (a : Int), .int .i64 (b : Int), .int .i64 (c : Int), .int .i64 (d : Int)] w fun e w' => e = .returned (.bool (decide (a * b < c * d))) ∧ w = w' := by
  have w1 : IntKind.u64.wrap (a : Int) = (a : Int) := Mul64.wrapN a (by omega)
  have w2 : IntKind.u64.wrap (b : Int) = (b : Int) := Mul64.wrapN b (by omega)
  have w3 : IntKind.u64.wrap (c : Int) = (c : Int) := Mul64.wrapN c (by omega)
  have w4 : IntKind.u64.wrap (d : Int) = (d : Int) := Mul64.wrapN d (by omega)
  have m1 := fun w => mul64_any a b (by omega) (by omega) w
  have m2 := fun w => mul64_any c d (by omega) (by omega) w
  generalize hx : a * b = x at *
  generalize hy : c * d = y at *
  clear hx hy
  have hE : ∃ E, E = decide (x < y) := ⟨_, rfl⟩
  obtain ⟨E, hE⟩ := hE
  rw [← hE]
  have HE := Lib.hid hE
  generalize hh1 : x / 18446744073709551616 = h1 at *
  generalize hh2 : y / 18446744073709551616 = h2 at *
  generalize hl1 : x % 18446744073709551616 = l1 at *
  generalize hl2 : y % 18446744073709551616 = l2 at *
  have H := Lib.hid (And.intro hh1 (And.intro hh2 (And.intro hl1 hl2)))
  clear hh1 hh2 hl1 hl2
  have M1 := Lib.hid m1
  have M2 := Lib.hid m2
  clear m1 m2 hE
  go_enter Try.func94, Try.ntmps94
  go_wp2_with fail
  refine (M1.out _).mono ?_
  rintro e w1 ⟨rfl, rfl⟩
  go_wp2_with fail
  refine (M2.out _).mono ?_
  rintro e w1 ⟨rfl, rfl⟩
  by_cases q1 : (h1 : Int) < (h2 : Int)
  · have q1' : decide ((h1 : Int) < (h2 : Int)) = true := by simpa using q1
    go_wp2_with fail
    go_ret
    exact ⟨ret_bool (by rw [HE.out]; obtain ⟨g1, g2, g3, g4⟩ := H.out; symm; simp; omega), rfl⟩
  · have q1' : decide ((h1 : Int) < (h2 : Int)) = false := by simpa using q1
    by_cases q2 : (h1 : Int) = (h2 : Int)
    · have q2' : ((h1 : Int) == (h2 : Int)) = true := by simpa using q2
      go_wp2_with fail
      go_ret
      exact ⟨ret_bool (by rw [HE.out]; obtain ⟨g1, g2, g3, g4⟩ := H.out; simp only [decide_eq_decide]; omega), rfl⟩
    · have q2' : ((h1 : Int) == (h2 : Int)) = false := by simpa using q2
      go_wp2_with fail
      go_ret
      exact ⟨ret_bool (by rw [HE.out]; obtain ⟨g1, g2, g3, g4⟩ := H.out; symm; simp; omega), rfl⟩

set_option maxRecDepth 100000 in
set_option maxHeartbeats 2000000 in
theorem less_any (a b c d : Nat) (w : World) (ha : a ≤ 9223372036854775807) (hb : b ≤ 9223372036854775807) (hc : c ≤ 9223372036854775807) (hd : d ≤ 9223372036854775807) :
    Calls Try.prog 77 #[.agg #[.int .i64 (a : Int), .int .i64 (b : Int)], .agg #[.int .i64 (c : Int), .int .i64 (d : Int)]] w fun e w' => e = .returned (.bool (decide (a * d < c * b))) ∧ Below w.heap.size w w' := by
  have w1 : IntKind.u64.wrap (a : Int) = (a : Int) := Mul64.wrapN a (by omega)
  have w2 : IntKind.u64.wrap (b : Int) = (b : Int) := Mul64.wrapN b (by omega)
  have w3 : IntKind.u64.wrap (c : Int) = (c : Int) := Mul64.wrapN c (by omega)
  have w4 : IntKind.u64.wrap (d : Int) = (d : Int) := Mul64.wrapN d (by omega)
  have m1 := fun w => mul64_any a d (by omega) (by omega) w
  have m2 := fun w => mul64_any c b (by omega) (by omega) w
  generalize hx : a * d = x at *
  generalize hy : c * b = y at *
  clear hx hy
  have hE : ∃ E, E = decide (x < y) := ⟨_, rfl⟩
  obtain ⟨E, hE⟩ := hE
  rw [← hE]
  have HE := Lib.hid hE
  generalize hh1 : x / 18446744073709551616 = h1 at *
  generalize hh2 : y / 18446744073709551616 = h2 at *
  generalize hl1 : x % 18446744073709551616 = l1 at *
  generalize hl2 : y % 18446744073709551616 = l2 at *
  have H := Lib.hid (And.intro hh1 (And.intro hh2 (And.intro hl1 hl2)))
  clear hh1 hh2 hl1 hl2
  have M1 := Lib.hid m1
  have M2 := Lib.hid m2
  clear m1 m2 hE
  go_enter Try.func77, Try.ntmps77
  go_wp2_with fail
  refine (M1.out _).mono ?_
  rintro e w1 ⟨rfl, rfl⟩
  go_wp2_with fail
  refine (M2.out _).mono ?_
  rintro e w1 ⟨rfl, rfl⟩
  have hbw : Below w.heap.size w ((w.alloc (.cells #[.int .i64 (a : Int), .int .i64 (b : Int)] 57)).alloc (.cells #[.int .i64 (c : Int), .int .i64 (d : Int)] 57)) := ((Below.refl _ w).alloc (Nat.le_refl _) _).alloc (by simp) _
  by_cases q1 : (h1 : Int) < (h2 : Int)
  · have q1' : decide ((h1 : Int) < (h2 : Int)) = true := by simpa using q1
    go_wp2_with fail
    go_ret
    exact ⟨ret_bool (by rw [HE.out]; obtain ⟨g1, g2, g3, g4⟩ := H.out; symm; simp; omega), hbw⟩
  · have q1' : decide ((h1 : Int) < (h2 : Int)) = false := by simpa using q1
    by_cases q2 : (h1 : Int) = (h2 : Int)
    · have q2' : ((h1 : Int) == (h2 : Int)) = true := by simpa using q2
      go_wp2_with fail
      go_ret
      exact ⟨ret_bool (by rw [HE.out]; obtain ⟨g1, g2, g3, g4⟩ := H.out; simp only [decide_eq_decide]; omega), hbw⟩
    · have q2' : ((h1 : Int) == (h2 : Int)) = false := by simpa using q2
      go_wp2_with fail
      go_ret
      exact ⟨ret_bool (by rw [HE.out]; obtain ⟨g1, g2, g3, g4⟩ := H.out; symm; simp; omega), hbw⟩
end Go.Proofs.Ytjfeebhejjhejaa
