/- What a right series is: its samples are right, its moments rise. -/
import Derived.Test.YtdacdiigeainmaaSer
import Derived.Test.YtdacdiigeainmaaRise
namespace Go.Proofs.Ytdacdiigeainmaa
open Go.RowKit
set_option linter.unusedVariables false
set_option linter.unusedSimpArgs false

theorem serFrom_good (p : Option Int) (l : List Smp) (h : serFrom p l = 0) : ∀ x ∈ l, smpErr x = 0 := by
  induction l generalizing p with
  | nil => simp
  | cons y l ih =>
    simp only [serFrom] at h
    intro x hx
    by_cases hy : smpErr y = 0
    · rw [if_neg (by simpa using hy)] at h
      split at h
      · omega
      · rcases List.mem_cons.1 hx with rfl | hx
        · exact hy
        · exact ih _ h x hx
    · rw [if_pos (by simpa using hy)] at h
      exact absurd h hy
theorem serErr_good {l : List Smp} (h : serErr l = 0) : l.length ≤ 5000 ∧ ∀ x ∈ l, smpErr x = 0 := by
  unfold serErr at h
  split at h
  · omega
  · exact ⟨by omega, serFrom_good _ _ h⟩
theorem smpErr_good {x : Smp} (h : smpErr x = 0) : (0 ≤ x.t ∧ x.t ≤ 345686399999) ∧ (0 ≤ x.q ∧ x.q ≤ 2) ∧ (-1000000 ≤ x.v ∧ x.v ≤ 1000000) ∧ (x.q = 2 → x.v = 0) := by
  unfold smpErr inB at h
  simp only [decide_eq_false_iff_not] at h
  split at h; · omega
  split at h; · omega
  split at h; · omega
  split at h; · omega
  rename_i h1 h2 h3 h4
  refine ⟨by omega, by omega, by omega, fun hq => ?_⟩
  by_cases hv : x.v = 0
  · exact hv
  · exact absurd ⟨hq, hv⟩ h4
theorem serFrom_rise (p : Option Int) (l : List Smp) (h : serFrom p l = 0) : Rise p l := by
  induction l generalizing p with
  | nil => trivial
  | cons x r ih =>
    unfold serFrom at h
    by_cases h1 : smpErr x = 0
    · rw [if_neg (by simpa using h1)] at h
      by_cases h2 : notAfter p x.t = true
      · rw [if_pos h2] at h; omega
      · rw [if_neg h2] at h
        refine ⟨fun t ht => ?_, ih _ h⟩
        subst ht
        simp [notAfter] at h2
        omega
    · rw [if_pos h1] at h; exact absurd h h1
theorem serErr_rise {l : List Smp} (h : serErr l = 0) : Rise none l := by
  unfold serErr at h
  split at h
  · omega
  · exact serFrom_rise none l h
theorem serErr_vt {l : List Smp} (h : serErr l = 0) (i : Nat) : (-1000000 ≤ (atS l i).v ∧ (atS l i).v ≤ 1000000) ∧ (0 ≤ (atS l i).t ∧ (atS l i).t ≤ 345686399999) := by
  obtain ⟨_, hall⟩ := serErr_good h
  rcases Nat.lt_or_ge i l.length with hi | hi
  · rw [← atS_eq l i hi]; have := smpErr_good (hall _ (List.getElem_mem hi)); exact ⟨this.2.2.1, this.1⟩
  · simp [atS, List.getD_eq_getElem?_getD, List.getElem?_eq_none hi]
theorem rise_ltA {l : List Smp} {p : Option Int} (h : Rise p l) (i j : Nat) (hij : i < j) (hj : j < l.length) : (atS l i).t < (atS l j).t := by
  induction l generalizing p i j with
  | nil => simp at hj
  | cons x r ih =>
    cases j with
    | zero => omega
    | succ j =>
      have hj' : j < r.length := by simpa using hj
      cases i with
      | zero =>
        have := Rise.mem h.2 r[j] (List.getElem_mem _)
        rw [atS_eq r j hj'] at this
        exact this
      | succ i => exact ih h.2 i j (by omega) hj'
end Go.Proofs.Ytdacdiigeainmaa
