/- The contracts of divisor and Reduced (package basic): the greatest common divisor; a quotient in lowest terms. -/
import Derived.Test.YtdacdiigeainmaaDist
import Derived.Deep.RegionWith
namespace Go.Proofs.Ytdacdiigeainmaa
open Go.RowKit
set_option linter.unusedVariables false
set_option linter.unusedSimpArgs false

theorem gcd_step (a b : Int) (h : b ≠ 0) : Int.gcd b (a.tmod b) = Int.gcd a b := by
  unfold Int.gcd
  rw [Int.natAbs_tmod, Nat.gcd_comm a.natAbs b.natAbs]
  conv => rhs; rw [Nat.gcd_rec]
  exact Nat.gcd_comm _ _
theorem gtmod_less (a b : Int) (h : b ≠ 0) : (a.tmod b).natAbs < b.natAbs := by
  rw [Int.natAbs_tmod]
  exact Nat.mod_lt _ (by omega)

/-- A quotient in lowest terms. -/
def fracOf (n d : Int) : Int × Int := (n / ((Int.gcd n d : Nat) : Int), d / ((Int.gcd n d : Nat) : Int))
theorem frac_parts (n d : Int) (hd : 0 < d) : 0 < ((Int.gcd n d : Nat) : Int) ∧ n.tdiv ((Int.gcd n d : Nat) : Int) = (fracOf n d).1 ∧ d.tdiv ((Int.gcd n d : Nat) : Int) = (fracOf n d).2 := by
  have h0 : 0 < Int.gcd n d := Int.gcd_pos_of_ne_zero_right _ (by omega)
  refine ⟨by omega, ?_, ?_⟩
  · exact Int.tdiv_eq_ediv_of_dvd (Int.gcd_dvd_left ..)
  · exact Int.tdiv_eq_ediv_of_dvd (Int.gcd_dvd_right ..)
theorem tdiv_bound (n g : Int) (hg : 0 < g) : -(n.natAbs : Int) ≤ n.tdiv g ∧ n.tdiv g ≤ (n.natAbs : Int) := by
  have h1 := Int.natAbs_tdiv n g
  have h2 : n.natAbs / g.natAbs ≤ n.natAbs := Nat.div_le_self _ _
  have h3 : (n.tdiv g).natAbs ≤ n.natAbs := by rw [h1]; exact h2
  omega

end Go.Proofs.Ytdacdiigeainmaa
