/- The contracts of thousandths: package query, and the reference. -/
import Derived.Test.YtblbfpokkpkcjaaVat
import Derived.RegionTactic
import Derived.Deep.QuietTactic
import Derived.BigQuiet
import Derived.Deep.DeepCutAuto
namespace Go.Proofs.Ytblbfpokkpkcjaa
open Go.RowKit
set_option linter.unusedVariables false
set_option linter.unusedSimpArgs false

/-- A fraction in thousandths, rounded down. -/
def tho (n d : Int) : Int := 1000 * (n / d) + 1000 * (n % d) / d
theorem tdiv_fl (n d : Int) (hd : 0 < d) : (n.tmod d < 0 → n / d = n.tdiv d - 1 ∧ n % d = n.tmod d + d) ∧ (0 ≤ n.tmod d → n / d = n.tdiv d ∧ n % d = n.tmod d) := by
  have h1 := Int.mul_tdiv_add_tmod n d
  have h2 := Int.mul_ediv_add_emod n d
  have h3 := Int.emod_nonneg n (show d ≠ 0 by omega)
  have h4 := Int.emod_lt_of_pos n hd
  have h5 : n.tmod d < d := Int.tmod_lt_of_pos n hd
  have h6 : -d < n.tmod d := by
    have := Int.lt_tmod_of_pos n hd
    omega
  constructor
  · intro h
    have e : d * (n.tdiv d - 1) + (n.tmod d + d) = n := by rw [Int.mul_sub, Int.mul_one]; omega
    have := Int.ediv_emod_unique hd |>.2 ⟨(show (n.tmod d + d) + d * (n.tdiv d - 1) = n by omega), by omega, by omega⟩
    exact this
  · intro h
    exact Int.ediv_emod_unique hd |>.2 ⟨(show n.tmod d + d * n.tdiv d = n by omega), by omega, by omega⟩

theorem floor_any (n d : Int) (w : World) (hn : -4000000000000000000 ≤ n ∧ n ≤ 4000000000000000000) (hd : 0 < d ∧ d ≤ 1000000000000) (hw : -4000000000000000000 ≤ n / d ∧ n / d ≤ 4000000000000000000) :
    Calls Try.prog 180 #[.agg #[.int .i64 n, .int .i64 d]] w fun e w' => e = .returned (.int .i64 (n / d)) ∧ Below w.heap.size w w' := by
  have hB := Blk.new w 57 #[.int .i64 n, .int .i64 d]
  have hbe := (Below.refl w.heap.size w).alloc (Nat.le_refl _) (.cells #[.int .i64 n, .int .i64 d] 57)
  obtain ⟨h1, h2⟩ := tdiv_fl n d hd.1
  have hE : n / d = n / d := rfl
  generalize hq : n / d = E at hE ⊢
  rw [hq] at h1 h2 hw
  have HE := Lib.hid hq
  have H1 := Lib.hid h1
  have H2 := Lib.hid h2
  clear hE h1 h2 hq
  go_enter Try.func180, Try.ntmps180
  go_upto_region 1 with fail
  generalize w.alloc (.cells #[.int .i64 n, .int .i64 d] 57) = w1 at *
  have c0 : w1.cell? ⟨w.heap.size, 0, none⟩ = some (.int .i64 n) := hB.cell 0
  have c1 : w1.cell? ⟨w.heap.size, 1, none⟩ = some (.int .i64 d) := hB.cell 1
  have hd0 : ¬ d = 0 := by omega
  clear hB
  go_upto_region 2 with fail
  generalize n.tdiv d = T at *
  by_cases hM : n.tmod d < 0
  · obtain ⟨e1, e2⟩ := H1.out hM
    have hT : -4000000000000000000 ≤ T - 1 ∧ T - 1 ≤ 4000000000000000000 := by omega
    have E1 := Lib.hid e1
    have hM' : decide (n.tmod d < 0) = true := by simpa using hM
    clear e1 e2 hw
    go_wp2_with fail
    go_ret
    exact ⟨ret_int (by rw [E1.out]), hbe⟩
  · obtain ⟨e1, e2⟩ := H2.out (by omega)
    have E1 := Lib.hid e1
    have hM' : decide (n.tmod d < 0) = false := by simpa using hM
    have hM2 : 0 ≤ n.tmod d := by omega
    clear e1 e2 hw hM
    go_wp2_with fail
    go_ret
    exact ⟨ret_int (by rw [E1.out]), hbe⟩
theorem qtho_any (n d : Int) (w : World) (hn : -4000000000000000000 ≤ n ∧ n ≤ 4000000000000000000) (hd : 0 < d ∧ d ≤ 1000000000000) (hw : -2000000 ≤ n / d ∧ n / d ≤ 2000000) :
    Calls Try.prog 138 #[.agg #[.int .i64 n, .int .i64 d]] w fun e w' => e = .returned (.int .i64 (tho n d)) ∧ Below w.heap.size w w' := by
  have hB := Blk.new w 57 #[.int .i64 n, .int .i64 d]
  have hbe := (Below.refl w.heap.size w).alloc (Nat.le_refl _) (.cells #[.int .i64 n, .int .i64 d] 57)
  have h3 := Int.emod_nonneg n (show d ≠ 0 by omega)
  have h4 := Int.emod_lt_of_pos n hd.1
  have h5 := Int.mul_ediv_add_emod n d
  have hE : tho n d = 1000 * (n / d) + 1000 * (n % d) / d := rfl
  have hq : 0 ≤ 1000 * (n % d) / d ∧ 1000 * (n % d) / d ≤ 1000 := by
    refine ⟨Int.ediv_nonneg (by omega) (by omega), ?_⟩
    have : 1000 * (n % d) ≤ 1000 * d := by omega
    exact Int.ediv_le_of_le_mul hd.1 this
  have HFL := Lib.hid (fun w => floor_any n d w hn hd (by omega))
  generalize tho n d = E at *
  have HE := Lib.hid hE
  have htd : (1000 * (n - n / d * d)).tdiv d = 1000 * (n % d) / d := by rw [show n - n / d * d = n % d by rw [Int.mul_comm]; omega]; exact Int.tdiv_eq_ediv_of_nonneg (by omega)
  have hmc : d * (n / d) = n / d * d := Int.mul_comm _ _
  have hp : -4000000000000000000 - 1000000000000 ≤ n / d * d ∧ n / d * d ≤ 4000000000000000000 := by omega
  have hr : 0 ≤ n - n / d * d ∧ n - n / d * d < 1000000000000 := by omega
  clear hE h3 h4 h5 hmc
  generalize 1000 * (n % d) / d = Q at *
  generalize n / d = T at *
  go_enter Try.func138, Try.ntmps138
  go_upto_region 1 with fail
  generalize w.alloc (.cells #[.int .i64 n, .int .i64 d] 57) = w1 at *
  have c0 : w1.cell? ⟨w.heap.size, 0, none⟩ = some (.int .i64 n) := hB.cell 0
  have c1 : w1.cell? ⟨w.heap.size, 1, none⟩ = some (.int .i64 d) := hB.cell 1
  have hd0 : ¬ d = 0 := by omega
  go_wp2_with fail
  refine (HFL.out _).mono ?_
  rintro e w2 ⟨rfl, hb2⟩
  have hbz := hbe.trans (hb2.mono hbe.size)
  have hB2 := hB.below hb2 hB.lt
  clear c0 c1 hB
  have c0 : w2.cell? ⟨w.heap.size, 0, none⟩ = some (.int .i64 n) := hB2.cell 0
  have c1 : w2.cell? ⟨w.heap.size, 1, none⟩ = some (.int .i64 d) := hB2.cell 1
  go_wp2_with fail
  go_ret
  exact ⟨ret_int (by rw [HE.out]), hbz⟩
theorem rtho_any (n d : Int) (w : World) (hn : -4000000000000000000 ≤ n ∧ n ≤ 4000000000000000000) (hd : 0 < d ∧ d ≤ 1000000000000) (hw : -2000000 ≤ n / d ∧ n / d ≤ 2000000) :
    Calls Try.prog 141 #[.agg #[.int .i64 n, .int .i64 d]] w fun e w' => e = .returned (.int .i64 (tho n d)) ∧ Below w.heap.size w w' := by
  have hB := Blk.new w 57 #[.int .i64 n, .int .i64 d]
  have hbe := (Below.refl w.heap.size w).alloc (Nat.le_refl _) (.cells #[.int .i64 n, .int .i64 d] 57)
  obtain ⟨h1, h2⟩ := tdiv_fl n d hd.1
  have h3 := Int.emod_nonneg n (show d ≠ 0 by omega)
  have h4 := Int.emod_lt_of_pos n hd.1
  have h5 := Int.mul_ediv_add_emod n d
  have hE : tho n d = 1000 * (n / d) + 1000 * (n % d) / d := rfl
  have hq : 0 ≤ 1000 * (n % d) / d ∧ 1000 * (n % d) / d ≤ 1000 := by
    refine ⟨Int.ediv_nonneg (by omega) (by omega), ?_⟩
    have : 1000 * (n % d) ≤ 1000 * d := by omega
    exact Int.ediv_le_of_le_mul hd.1 this
  generalize tho n d = E at *
  have HE := Lib.hid hE
  have H1 := Lib.hid h1
  have H2 := Lib.hid h2
  have H5 := Lib.hid h5
  clear hE h1 h2 h5
  go_enter Try.func141, Try.ntmps141
  go_upto_region 1 with fail
  generalize w.alloc (.cells #[.int .i64 n, .int .i64 d] 57) = w1 at *
  have c0 : w1.cell? ⟨w.heap.size, 0, none⟩ = some (.int .i64 n) := hB.cell 0
  have c1 : w1.cell? ⟨w.heap.size, 1, none⟩ = some (.int .i64 d) := hB.cell 1
  have hd0 : ¬ d = 0 := by omega
  clear hB
  go_upto_region 2 with fail
  generalize n.tdiv d = T at *
  by_cases hM : n.tmod d < 0
  · obtain ⟨e1, e2⟩ := H1.out hM
    have e3 : (T - 1) * d + n % d = n := by rw [← e1, Int.mul_comm]; exact H5.out
    have htd : (1000 * (n - (T - 1) * d)).tdiv d = 1000 * (n % d) / d := by rw [show n - (T - 1) * d = n % d by omega]; exact Int.tdiv_eq_ediv_of_nonneg (by omega)
    have hT : -2000000 ≤ T - 1 ∧ T - 1 ≤ 2000000 := by omega
    have hp : -4000000000000000000 - 1000000000000 ≤ (T - 1) * d ∧ (T - 1) * d ≤ 4000000000000000000 := by omega
    have hr : 0 ≤ n - (T - 1) * d ∧ n - (T - 1) * d < 1000000000000 := by omega
    have E1 := Lib.hid e1
    have hM' : decide (n.tmod d < 0) = true := by simpa using hM
    clear e1 e2 e3 h3 h4 hw
    generalize 1000 * (n % d) / d = Q at *
    go_wp2_with fail
    go_ret
    exact ⟨ret_int (by rw [HE.out, E1.out]), hbe⟩
  · obtain ⟨e1, e2⟩ := H2.out (by omega)
    have e3 : T * d + n % d = n := by rw [← e1, Int.mul_comm]; exact H5.out
    have htd : (1000 * (n - T * d)).tdiv d = 1000 * (n % d) / d := by rw [show n - T * d = n % d by omega]; exact Int.tdiv_eq_ediv_of_nonneg (by omega)
    have hT : -2000000 ≤ T ∧ T ≤ 2000000 := by omega
    have hp : -4000000000000000000 - 1000000000000 ≤ T * d ∧ T * d ≤ 4000000000000000000 := by omega
    have hr : 0 ≤ n - T * d ∧ n - T * d < 1000000000000 := by omega
    have E1 := Lib.hid e1
    have hM' : decide (n.tmod d < 0) = false := by simpa using hM
    have hM2 : 0 ≤ n.tmod d := by omega
    clear e1 e2 e3 h3 h4 hw hM
    generalize 1000 * (n % d) / d = Q at *
    go_wp2_with fail
    go_ret
    exact ⟨ret_int (by rw [HE.out, E1.out]), hbe⟩
end Go.Proofs.Ytblbfpokkpkcjaa
