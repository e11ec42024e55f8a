/- The contract of the reference's ReportOf: it reports what Report reports. -/
import Derived.Test.YtgbnjbbjgkfefaaRepm
namespace Go.Proofs.Ytgbnjbbjgkfefaa
open Go.RowKit
set_option linter.unusedVariables false
set_option linter.unusedSimpArgs false

theorem repI_sub (i : Int) (s : Int × List Int) (x : Int) (h : x ∈ (repI i s).2) : x ∈ s.2 ∨ x = i := by
  unfold repI at h
  split at h
  · simpa using h
  · exact .inl h
/-- All indices that were reported are at most the last one, and it is there. -/
theorem repTo_mem (d m : Int) (l : List Smp) (j : Nat) : (∀ x ∈ (repTo d m l j).2, x ≤ (repTo d m l j).1) ∧ (0 ≤ (repTo d m l j).1 → (repTo d m l j).1 ∈ (repTo d m l j).2) := by
  have inv : ∀ (i : Int) (s : Int × List Int), ((∀ x ∈ s.2, x ≤ s.1) ∧ (0 ≤ s.1 → s.1 ∈ s.2)) → ((∀ x ∈ (repI i s).2, x ≤ (repI i s).1) ∧ (0 ≤ (repI i s).1 → (repI i s).1 ∈ (repI i s).2)) := by
    intro i s h
    unfold repI
    split
    · rename_i h1
      refine ⟨fun x hx => ?_, fun _ => by simp⟩
      rcases List.mem_append.1 hx with hx | hx
      · have := h.1 x hx; simp; omega
      · simp at hx; simp; omega
    · exact h
  induction j with
  | zero => simp [repTo]
  | succ j ih =>
    simp only [repTo, repStep]
    split
    · exact inv _ _ (inv _ _ ih)
    · exact ih
theorem repTo_has (d m : Int) (l : List Smp) (j : Nat) (hj : 0 < j) : (((j : Int) - 1) ∈ (repTo d m l j).2) ↔ (repTo d m l j).1 = (j : Int) - 1 := by
  have h1 := repTo_mem d m l j
  have h2 := repTo_last d m l j
  constructor
  · intro h
    have := h1.1 _ h
    omega
  · intro h
    rw [← h]
    exact h1.2 (by omega)

/-- What the reference has after j rounds. -/
def refOut (d m : Int) (l : List Smp) (j : Nat) : List Int := if j < l.length then (repTo d m l j).2 else reported d m l
theorem refOut_zero (d m : Int) (l : List Smp) : refOut d m l 0 = [] := by
  unfold refOut
  split
  · rfl
  · obtain rfl : l = [] := List.eq_nil_of_length_eq_zero (by omega)
    rfl
theorem refOut_last (d m : Int) (l : List Smp) : refOut d m l l.length = reported d m l := by unfold refOut; simp
theorem refOut_exc (d m : Int) (l : List Smp) (j : Nat) (h : j < l.length) (he : j = 0 ∨ excB d m (atS l (repTo d m l j).1.toNat) (atS l j) = true) :
    refOut d m l (j + 1) = (if (repTo d m l j).1 = (j : Int) - 1 then (repTo d m l j).2 else (repTo d m l j).2 ++ [(j : Int) - 1]) ++ [(j : Int)] := by
  have hl := repTo_last d m l j
  have hs : repTo d m l (j + 1) = repI (j : Int) (repI ((j : Int) - 1) (repTo d m l j)) := by simp only [repTo, repStep]; rw [if_pos he]
  have h1 : (repI ((j : Int) - 1) (repTo d m l j)).1 = (j : Int) - 1 := repI_last _ _ (by omega)
  have h2 : repI (j : Int) (repI ((j : Int) - 1) (repTo d m l j)) = ((j : Int), (repI ((j : Int) - 1) (repTo d m l j)).2 ++ [(j : Int)]) := by
    conv => lhs; unfold repI
    rw [if_pos (by rw [show (if (repTo d m l j).1 < (j : Int) - 1 then ((j : Int) - 1, (repTo d m l j).2 ++ [(j : Int) - 1]) else repTo d m l j) = repI ((j : Int) - 1) (repTo d m l j) from rfl]; omega)]
    rfl
  have h3 : (repI ((j : Int) - 1) (repTo d m l j)).2 = if (repTo d m l j).1 = (j : Int) - 1 then (repTo d m l j).2 else (repTo d m l j).2 ++ [(j : Int) - 1] := by
    unfold repI
    by_cases h : (repTo d m l j).1 = (j : Int) - 1
    · rw [if_neg (by omega), if_pos h]
    · rw [if_pos (by omega), if_neg h]
  have h4 : (repTo d m l (j + 1)).2 = (if (repTo d m l j).1 = (j : Int) - 1 then (repTo d m l j).2 else (repTo d m l j).2 ++ [(j : Int) - 1]) ++ [(j : Int)] := by rw [hs, h2, ← h3]
  unfold refOut
  split
  · exact h4
  · obtain hn : l.length = j + 1 := by omega
    unfold reported
    rw [hn, hs, h2, ← h3]
    unfold repI
    rw [if_neg (by simp)]
theorem refOut_end (d m : Int) (l : List Smp) (j : Nat) (h : j + 1 = l.length) (hj : 0 < j) (he : excB d m (atS l (repTo d m l j).1.toNat) (atS l j) = false) :
    refOut d m l (j + 1) = (repTo d m l j).2 ++ [(j : Int)] := by
  have hl := repTo_last d m l j
  have hs : repTo d m l (j + 1) = repTo d m l j := by simp only [repTo, repStep]; rw [if_neg (by rw [he]; simp; omega)]
  unfold refOut reported
  rw [if_neg (by omega), ← h, hs]
  unfold repI
  rw [if_pos (by omega)]
  simp
theorem refOut_go (d m : Int) (l : List Smp) (j : Nat) (h : j + 1 < l.length) (hj : 0 < j) (he : excB d m (atS l (repTo d m l j).1.toNat) (atS l j) = false) :
    refOut d m l (j + 1) = (repTo d m l j).2 ∧ (repTo d m l (j + 1)).1 = (repTo d m l j).1 := by
  have hs : repTo d m l (j + 1) = repTo d m l j := by simp only [repTo, repStep]; rw [if_neg (by rw [he]; simp; omega)]
  unfold refOut
  rw [if_pos h, hs]
  exact ⟨rfl, rfl⟩
theorem repTo_excLast (d m : Int) (l : List Smp) (j : Nat) (he : j = 0 ∨ excB d m (atS l (repTo d m l j).1.toNat) (atS l j) = true) : (repTo d m l (j + 1)).1 = j := by
  have hl := repTo_last d m l j
  simp only [repTo, repStep]
  rw [if_pos he]
  exact repI_last _ _ (by rw [repI_last _ _ (by omega)]; omega)
/-- What the reference holds as the last index. -/
def refLast (d m : Int) (l : List Smp) (j : Nat) : Nat := if j = 0 then 0 else (repTo d m l j).1.toNat
end Go.Proofs.Ytgbnjbbjgkfefaa
