/- Series whose moments rise; how many samples come before a moment. -/
import Derived.Test.YtdacdiigeainmaaAt
namespace Go.Proofs.Ytdacdiigeainmaa
open Go.RowKit
set_option linter.unusedVariables false
set_option linter.unusedSimpArgs false

/-- The moments rise, and are greater than p. -/
def Rise : Option Int → List Smp → Prop
  | _, [] => True
  | p, y :: r => (∀ t, p = some t → t < y.t) ∧ Rise (some y.t) r

theorem Rise.weak {p q : Option Int} {l : List Smp} (h : Rise p l) (hq : ∀ t, q = some t → ∃ s, p = some s ∧ t ≤ s) : Rise q l := by
  cases l with
  | nil => trivial
  | cons y r =>
    refine ⟨fun t ht => ?_, h.2⟩
    obtain ⟨s, hs, hts⟩ := hq t ht
    have := h.1 s hs
    omega
theorem Rise.none {p : Option Int} {l : List Smp} (h : Rise p l) : Rise none l := h.weak (fun _ ht => by cases ht)
theorem Rise.mem {s : Int} {l : List Smp} (h : Rise (some s) l) : ∀ x ∈ l, s < x.t := by
  induction l generalizing s with
  | nil => simp
  | cons y r ih =>
    intro x hx
    have h1 := h.1 s rfl
    rcases List.mem_cons.1 hx with rfl | hx
    · exact h1
    · have := ih h.2 x hx; omega

/-- How many samples come before a moment. -/
def posF (l : List Smp) (t : Int) : Nat := (l.takeWhile fun x => decide (x.t < t)).length
theorem posF_le (l : List Smp) (t : Int) : posF l t ≤ l.length := by
  unfold posF
  exact (List.takeWhile_sublist _).length_le
theorem posF_iff (l : List Smp) (t : Int) (p : Option Int) (h : Rise p l) (i : Nat) (hi : i < l.length) : t ≤ (atS l i).t ↔ posF l t ≤ i := by
  induction l generalizing p i with
  | nil => simp at hi
  | cons x r ih =>
    unfold posF
    by_cases hx : x.t < t
    · rw [List.takeWhile_cons_of_pos (by simpa using hx)]
      cases i with
      | zero => simp [atS]; omega
      | succ i =>
        have := ih (some x.t) h.2 i (by simpa using hi)
        simp only [List.length_cons]
        unfold posF at this
        simp [atS] at this ⊢
        exact this
    · rw [List.takeWhile_cons_of_neg (by simpa using hx)]
      simp only [List.length_nil, Nat.zero_le, iff_true]
      cases i with
      | zero => simp [atS]; omega
      | succ i =>
        have hi' : i < r.length := by simpa using hi
        have := Rise.mem h.2 r[i] (List.getElem_mem hi')
        simp [atS, List.getD_eq_getElem?_getD, List.getElem?_eq_getElem hi']
        omega
end Go.Proofs.Ytdacdiigeainmaa
