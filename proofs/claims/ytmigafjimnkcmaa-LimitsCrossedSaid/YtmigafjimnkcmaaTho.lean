/- The contracts of thousandths: package query, and the reference. -/
import Derived.Test.YtmigafjimnkcmaaVat
import Derived.RegionTactic
import Derived.Deep.QuietTactic
import Derived.BigQuiet
import Derived.Deep.DeepCutAuto
namespace Go.Proofs.Ytmigafjimnkcmaa
open Go.RowKit
set_option linter.unusedVariables false
set_option linter.unusedSimpArgs false

/-- A fraction in thousandths, rounded down. -/
def tho (n d : Int) : Int := 1000 * (n / d) + 1000 * (n % d) / d
theorem tdiv_fl (n d : Int) (hd : 0 < d) : (n.tmod d < 0 → n / d = n.tdiv d - 1 ∧ n % d = n.tmod d + d) ∧ (0 ≤ n.tmod d → n / d = n.tdiv d ∧ n % d = n.tmod d) := by
  have h1 := Int.mul_tdiv_add_tmod n d
  have h2 := Int.mul_ediv_add_emod n d
  have h3 := Int.emod_nonneg n (show d ≠ 0 by omega)
  have h4 := Int.emod_lt_of_pos n hd
  have h5 : n.tmod d < d := Int.tmod_lt_of_pos n hd
  have h6 : -d < n.tmod d := by
    have := Int.lt_tmod_of_pos n hd
    omega
  constructor
  · intro h
    have e : d * (n.tdiv d - 1) + (n.tmod d + d) = n := by rw [Int.mul_sub, Int.mul_one]; omega
    have := Int.ediv_emod_unique hd |>.2 ⟨(show (n.tmod d + d) + d * (n.tdiv d - 1) = n by omega), by omega, by omega⟩
    exact this
  · intro h
    exact Int.ediv_emod_unique hd |>.2 ⟨(show n.tmod d + d * n.tdiv d = n by omega), by omega, by omega⟩

theorem qtho_any (n d : Int) (w : World) (hn : -4000000000000000000 ≤ n ∧ n ≤ 4000000000000000000) (hd : 0 < d ∧ d ≤ 1000000000000) (hw : -2000000 ≤ n / d ∧ n / d ≤ 2000000) :
    Calls Try.prog 113 #[.agg #[.int .i64 n, .int .i64 d]] w fun e w' => e = .returned (.int .i64 (tho n d)) ∧ Below w.heap.size w w' := by
  have hB := Blk.new w 65 #[.int .i64 n, .int .i64 d]
  have hbe := (Below.refl w.heap.size w).alloc (Nat.le_refl _) (.cells #[.int .i64 n, .int .i64 d] 65)
  obtain ⟨h1, h2⟩ := tdiv_fl n d hd.1
  have h3 := Int.emod_nonneg n (show d ≠ 0 by omega)
  have h4 := Int.emod_lt_of_pos n hd.1
  have hE : tho n d = 1000 * (n / d) + 1000 * (n % d) / d := rfl
  have hq : 0 ≤ 1000 * (n % d) / d ∧ 1000 * (n % d) / d ≤ 1000 := by
    refine ⟨Int.ediv_nonneg (by omega) (by omega), ?_⟩
    have : 1000 * (n % d) ≤ 1000 * d := by omega
    exact Int.ediv_le_of_le_mul hd.1 this
  generalize tho n d = E at *
  have HE := Lib.hid hE
  have H1 := Lib.hid h1
  have H2 := Lib.hid h2
  clear hE h1 h2
  go_enter Try.func113, Try.ntmps113
  go_upto_region 1 with fail
  generalize w.alloc (.cells #[.int .i64 n, .int .i64 d] 65) = w1 at *
  have c0 : w1.cell? ⟨w.heap.size, 0, none⟩ = some (.int .i64 n) := hB.cell 0
  have c1 : w1.cell? ⟨w.heap.size, 1, none⟩ = some (.int .i64 d) := hB.cell 1
  have hd0 : ¬ d = 0 := by omega
  go_quiet (fail)
  generalize n.tdiv d = T at *
  generalize n.tmod d = M at *
  generalize hwq : w1.drewN nq = w2 at *
  have c1' : w2.cell? ⟨w.heap.size, 1, none⟩ = some (.int .i64 d) := by rw [← hwq]; exact c1
  have hbe2 : Below w.heap.size w w2 := by rw [← hwq]; exact bdrewN hbe nq
  clear hwq c0 c1 hB
  by_cases hM : M < 0
  · obtain ⟨e1, e2⟩ := H1.out hM
    have htd : (1000 * (M + d)).tdiv d = 1000 * (n % d) / d := by rw [← e2]; exact Int.tdiv_eq_ediv_of_nonneg (by omega)
    have hT : -2000000 ≤ T - 1 ∧ T - 1 ≤ 2000000 := by omega
    have hMd : 0 ≤ M + d ∧ M + d < d := by omega
    have E1 := Lib.hid e1
    have E2 := Lib.hid e2
    have hwm : IntKind.i64.wrap (M + d) = M + d := IntWalk.i64_in _ (by omega)
    have hwt : IntKind.i64.wrap (T - 1) = T - 1 := IntWalk.i64_in _ (by omega)
    clear e1 e2 h3 h4 hw
    generalize 1000 * (n % d) / d = Q at *
    go_wp2_with fail
    go_quiet (fail)
    go_wp2_with fail
    go_ret
    exact ⟨ret_int (by rw [HE.out, E1.out]), bdrewN hbe2 _⟩
  · obtain ⟨e1, e2⟩ := H2.out (by omega)
    have htd : (1000 * M).tdiv d = 1000 * (n % d) / d := by rw [← e2]; exact Int.tdiv_eq_ediv_of_nonneg (by omega)
    have hM' : 0 ≤ M ∧ M < d := by omega
    have hT : -2000000 ≤ T ∧ T ≤ 2000000 := by omega
    have E1 := Lib.hid e1
    have E2 := Lib.hid e2
    clear e1 e2 h3 h4 hw hM
    generalize 1000 * (n % d) / d = Q at *
    go_wp2_with fail
    go_ret
    exact ⟨ret_int (by rw [HE.out, E1.out]), hbe2⟩
theorem rtho_any (n d : Int) (w : World) (hn : -4000000000000000000 ≤ n ∧ n ≤ 4000000000000000000) (hd : 0 < d ∧ d ≤ 1000000000000) (hw : -2000000 ≤ n / d ∧ n / d ≤ 2000000) :
    Calls Try.prog 118 #[.agg #[.int .i64 n, .int .i64 d]] w fun e w' => e = .returned (.int .i64 (tho n d)) ∧ Below w.heap.size w w' := by
  have hB := Blk.new w 65 #[.int .i64 n, .int .i64 d]
  have hbe := (Below.refl w.heap.size w).alloc (Nat.le_refl _) (.cells #[.int .i64 n, .int .i64 d] 65)
  obtain ⟨h1, h2⟩ := tdiv_fl n d hd.1
  have h3 := Int.emod_nonneg n (show d ≠ 0 by omega)
  have h4 := Int.emod_lt_of_pos n hd.1
  have h5 := Int.mul_ediv_add_emod n d
  have hE : tho n d = 1000 * (n / d) + 1000 * (n % d) / d := rfl
  have hq : 0 ≤ 1000 * (n % d) / d ∧ 1000 * (n % d) / d ≤ 1000 := by
    refine ⟨Int.ediv_nonneg (by omega) (by omega), ?_⟩
    have : 1000 * (n % d) ≤ 1000 * d := by omega
    exact Int.ediv_le_of_le_mul hd.1 this
  generalize tho n d = E at *
  have HE := Lib.hid hE
  have H1 := Lib.hid h1
  have H2 := Lib.hid h2
  have H5 := Lib.hid h5
  clear hE h1 h2 h5
  go_enter Try.func118, Try.ntmps118
  go_upto_region 1 with fail
  generalize w.alloc (.cells #[.int .i64 n, .int .i64 d] 65) = w1 at *
  have c0 : w1.cell? ⟨w.heap.size, 0, none⟩ = some (.int .i64 n) := hB.cell 0
  have c1 : w1.cell? ⟨w.heap.size, 1, none⟩ = some (.int .i64 d) := hB.cell 1
  have hd0 : ¬ d = 0 := by omega
  clear hB
  go_upto_region 2 with fail
  generalize n.tdiv d = T at *
  by_cases hM : n.tmod d < 0
  · obtain ⟨e1, e2⟩ := H1.out hM
    have e3 : (T - 1) * d + n % d = n := by rw [← e1, Int.mul_comm]; exact H5.out
    have htd : (1000 * (n - (T - 1) * d)).tdiv d = 1000 * (n % d) / d := by rw [show n - (T - 1) * d = n % d by omega]; exact Int.tdiv_eq_ediv_of_nonneg (by omega)
    have hT : -2000000 ≤ T - 1 ∧ T - 1 ≤ 2000000 := by omega
    have hp : -4000000000000000000 - 1000000000000 ≤ (T - 1) * d ∧ (T - 1) * d ≤ 4000000000000000000 := by omega
    have hr : 0 ≤ n - (T - 1) * d ∧ n - (T - 1) * d < 1000000000000 := by omega
    have E1 := Lib.hid e1
    have hM' : decide (n.tmod d < 0) = true := by simpa using hM
    clear e1 e2 e3 h3 h4 hw
    generalize 1000 * (n % d) / d = Q at *
    go_wp2_with fail
    go_ret
    exact ⟨ret_int (by rw [HE.out, E1.out]), hbe⟩
  · obtain ⟨e1, e2⟩ := H2.out (by omega)
    have e3 : T * d + n % d = n := by rw [← e1, Int.mul_comm]; exact H5.out
    have htd : (1000 * (n - T * d)).tdiv d = 1000 * (n % d) / d := by rw [show n - T * d = n % d by omega]; exact Int.tdiv_eq_ediv_of_nonneg (by omega)
    have hT : -2000000 ≤ T ∧ T ≤ 2000000 := by omega
    have hp : -4000000000000000000 - 1000000000000 ≤ T * d ∧ T * d ≤ 4000000000000000000 := by omega
    have hr : 0 ≤ n - T * d ∧ n - T * d < 1000000000000 := by omega
    have E1 := Lib.hid e1
    have hM' : decide (n.tmod d < 0) = false := by simpa using hM
    have hM2 : 0 ≤ n.tmod d := by omega
    clear e1 e2 e3 h3 h4 hw hM
    generalize 1000 * (n % d) / d = Q at *
    go_wp2_with fail
    go_ret
    exact ⟨ret_int (by rw [HE.out, E1.out]), hbe⟩
end Go.Proofs.Ytmigafjimnkcmaa
