/- Plain mathematics of values: what a value of a right series lies between; by how much it changes. -/
import Derived.Test.YtblbfpokkpkcjaaVat
import Derived.Test.YtblbfpokkpkcjaaTho
import Derived.Test.YtblbfpokkpkcjaaWinb
namespace Go.Proofs.Ytblbfpokkpkcjaa
open Go.RowKit
set_option linter.unusedVariables false
set_option linter.unusedSimpArgs false

/-- A fraction that thousandths can take. -/
def FitF (n d : Int) : Prop := (-4000000000000000000 ≤ n ∧ n ≤ 4000000000000000000) ∧ (0 < d ∧ d ≤ 1000000000000) ∧ (-2000000 ≤ n / d ∧ n / d ≤ 2000000)
theorem fitF_of {n d : Int} (hd : 0 < d ∧ d ≤ 1000000000000) (h : -(1000000 * d) ≤ n ∧ n ≤ 1000000 * d) : FitF n d := by
  refine ⟨by omega, hd, ?_, ?_⟩
  · have : -1000000 ≤ n / d := Int.le_ediv_of_mul_le hd.1 (by omega)
    omega
  · have : n / d ≤ 1000000 := Int.ediv_le_of_le_mul hd.1 h.2
    omega
theorem fracOf_fit {n d : Int} (hd : 0 < d ∧ d ≤ 1000000000000) (h : -(1000000 * d) ≤ n ∧ n ≤ 1000000 * d) : FitF (fracOf n d).1 (fracOf n d).2 := by
  obtain ⟨hg, _, _⟩ := frac_parts n d hd.1
  unfold fracOf
  simp only
  have e1 : n / ((Int.gcd n d : Nat) : Int) * ((Int.gcd n d : Nat) : Int) = n := Int.ediv_mul_cancel (Int.gcd_dvd_left ..)
  have e2 : d / ((Int.gcd n d : Nat) : Int) * ((Int.gcd n d : Nat) : Int) = d := Int.ediv_mul_cancel (Int.gcd_dvd_right ..)
  generalize ((Int.gcd n d : Nat) : Int) = g at *
  generalize n / g = a at *
  generalize d / g = b at *
  have hb : 0 < b := by
    rcases Int.lt_or_le 0 b with h1 | h1
    · exact h1
    · have := Int.mul_le_mul_of_nonneg_right h1 (Int.le_of_lt hg); omega
  have hbd : b ≤ d := by
    have := Int.mul_le_mul_of_nonneg_left (show 1 ≤ g by omega) (Int.le_of_lt hb)
    omega
  refine fitF_of ⟨hb, by omega⟩ ⟨?_, ?_⟩
  · refine Int.le_of_mul_le_mul_right (a := g) ?_ hg
    rw [e1, Int.neg_mul, Int.mul_assoc, e2]; exact h.1
  · refine Int.le_of_mul_le_mul_right (a := g) ?_ hg
    rw [e1, Int.mul_assoc, e2]; exact h.2
theorem lineAt_fit {p n : Smp} {t : Int} (hp : Right p) (hn : Right n) (hpn : p.t < n.t) (ht : p.t ≤ t ∧ t ≤ n.t) : FitF (lineAt p n t).1 (lineAt p n t).2 := by
  unfold Right at hp hn
  unfold lineAt
  refine fracOf_fit (by omega) ?_
  have e : p.v * (n.t - p.t) + (n.v - p.v) * (t - p.t) = p.v * (n.t - t) + n.v * (t - p.t) := by
    have : n.t - p.t = (n.t - t) + (t - p.t) := by omega
    rw [this, Int.mul_add, Int.sub_mul]; omega
  rw [e]
  have b1 := Int.mul_le_mul_of_nonneg_right hp.2.2 (show 0 ≤ n.t - t by omega)
  have b2 := Int.mul_le_mul_of_nonneg_right hp.2.1 (show 0 ≤ n.t - t by omega)
  have b3 := Int.mul_le_mul_of_nonneg_right hn.2.2 (show 0 ≤ t - p.t by omega)
  have b4 := Int.mul_le_mul_of_nonneg_right hn.2.1 (show 0 ≤ t - p.t by omega)
  omega
theorem valO_fit {l : List Smp} {st : Bool} {t : Int} {x : Pnt} (hS : Rise none l) (hr : ∀ i, i < l.length → Right (atS l i)) (h : valO l st t = some x) : FitF x.n x.d := by
  unfold valO at h
  have hpl := posF_le l (t + 1)
  have hpa := pos_around l (t + 1) hS
  generalize posF l (t + 1) = p at *
  by_cases h0 : p = 0
  · rw [if_pos h0] at h; cases h
  · rw [if_neg h0] at h
    have h1 := hr (p - 1) (by omega)
    split at h
    · cases h
      unfold Right at h1
      exact show FitF (atS l (p - 1)).v 1 from fitF_of (by omega) (by omega)
    · rename_i hs
      cases h
      have hpl' : p < l.length := by
        rcases Nat.lt_or_ge p l.length with h2 | h2
        · exact h2
        · exact absurd (.inr (.inr (.inr (.inl (by omega))))) hs
      have a1 := hpa.1 (p - 1) (by omega) (by omega)
      have a2 := hpa.2 hpl'
      exact lineAt_fit h1 (hr p hpl') (by omega) (by omega)

/-- By how much a value changes over a window. -/
def chgO : Option Pnt → Option Pnt → Option Int
  | some a, some b => if a.q = 2 ∨ b.q = 2 then none else some (tho b.n b.d - tho a.n a.d)
  | _, _ => none
theorem tho_bound {n d : Int} (h : FitF n d) : -3000000000 ≤ tho n d ∧ tho n d ≤ 3000000000 := by
  obtain ⟨_, hd, hw⟩ := h
  have h3 := Int.emod_nonneg n (show d ≠ 0 by omega)
  have h4 := Int.emod_lt_of_pos n hd.1
  have hq : 0 ≤ 1000 * (n % d) / d ∧ 1000 * (n % d) / d ≤ 1000 :=
    ⟨Int.ediv_nonneg (by omega) (by omega), Int.ediv_le_of_le_mul hd.1 (by omega)⟩
  unfold tho
  omega

def chgE (l : List Smp) (f t : Int) : Int := orE (orE (serErr l) (winErr f t)) (if t = 345686400000 then 1 else 0)
def chgR (l : List Smp) (st : Bool) (f t : Int) : Option Int := if chgE l f t = 0 then chgO (valO l st f) (valO l st t) else none
end Go.Proofs.Ytblbfpokkpkcjaa
