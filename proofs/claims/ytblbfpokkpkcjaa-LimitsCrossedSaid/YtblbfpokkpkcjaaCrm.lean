/- Plain mathematics of crossings: what the program collects is what the reference collects. -/
import Derived.Test.YtblbfpokkpkcjaaDiv
import Derived.Test.YtblbfpokkpkcjaaRise
namespace Go.Proofs.Ytblbfpokkpkcjaa
open Go.RowKit
set_option linter.unusedVariables false
set_option linter.unusedSimpArgs false

/-- A sample that is equal to the limit. -/
def eqL (L : Int) (s : Smp) : Bool := decide (s.v = L) && decide (s.q ≠ 2)
def btw (L : Int) (l : List Smp) (i k : Nat) : Bool := ((l.drop (i + 1)).take (k - (i + 1))).all (eqL L)
theorem btw_iff {L : Int} {l : List Smp} {i k : Nat} (hk : k ≤ l.length) : btw L l i k = true ↔ ∀ j, i < j → j < k → eqL L (atS l j) = true := by
  unfold btw
  rw [List.all_eq_true]
  constructor
  · intro h j h1 h2
    refine h _ ?_
    rw [← atS_eq l j (by omega), List.mem_iff_getElem]
    refine ⟨j - (i + 1), by simp; omega, ?_⟩
    simp only [List.getElem_take, List.getElem_drop]
    congr 1; omega
  · intro h s hs
    rw [List.mem_iff_getElem] at hs
    obtain ⟨n, hn, rfl⟩ := hs
    simp only [List.length_take, List.length_drop] at hn
    simp only [List.getElem_take, List.getElem_drop]
    have := h (i + 1 + n) (by omega) (by omega)
    rwa [← atS_eq l (i + 1 + n) (by omega)] at this
/-- Two values on both sides of the limit. -/
def opp (L : Int) (a b : Smp) : Bool := (decide (a.v < L) && decide (L < b.v)) || (decide (L < a.v) && decide (b.v < L))
def dif (a b : Int) : Int := if b ≤ a then a - b else b - a
/-- The time of a crossing. -/
def crT (L : Int) (l : List Smp) (i k : Nat) : Int × Int :=
  if k = i + 1 then fracOf ((atS l i).t * dif (atS l i).v (atS l k).v + dif (atS l i).v L * ((atS l k).t - (atS l i).t)) (dif (atS l i).v (atS l k).v)
  else ((atS l (i + 1)).t, 1)
def insB (f t : Int) (x : Int × Int) : Bool := decide (f * x.2 ≤ x.1) && decide (x.1 < t * x.2)
def crC (L : Int) (l : List Smp) (i k : Nat) : Bool := btw L l i k && decide ((atS l i).q ≠ 2) && decide ((atS l k).q ≠ 2) && opp L (atS l i) (atS l k)
def crs (L f t : Int) (l : List Smp) (i k : Nat) : List (Int × Int) := if crC L l i k = true ∧ insB f t (crT L l i k) = true then [crT L l i k] else []
/-- The last sample that is not equal to the limit, if none after it is Bad. -/
def lastF (L : Int) (l : List Smp) : Nat → Option Nat
  | 0 => none
  | m + 1 => if (atS l m).q = 2 then none else if (atS l m).v = L then lastF L l m else some m
def newF (L f t : Int) (l : List Smp) (m : Nat) : List (Int × Int) := match lastF L l m with
  | some j => crs L f t l j m
  | none => []
def outF (L f t : Int) (l : List Smp) : Nat → List (Int × Int)
  | 0 => []
  | m + 1 => outF L f t l m ++ newF L f t l m
/-- A row of the reference: all second samples before m. -/
def rowF (L f t : Int) (l : List Smp) (i : Nat) : Nat → List (Int × Int)
  | 0 => []
  | m + 1 => rowF L f t l i m ++ (if i < m then crs L f t l i m else [])
def allF (L f t : Int) (l : List Smp) (n : Nat) : Nat → List (Int × Int)
  | 0 => []
  | i + 1 => allF L f t l n i ++ rowF L f t l i n

theorem lastF_some {L : Int} {l : List Smp} {m j : Nat} (h : lastF L l m = some j) : j < m ∧ (atS l j).q ≠ 2 ∧ (atS l j).v ≠ L ∧ ∀ i, j < i → i < m → eqL L (atS l i) = true := by
  induction m with
  | zero => cases h
  | succ m ih =>
    unfold lastF at h
    split at h
    · cases h
    · rename_i hq
      split at h
      · rename_i hv
        obtain ⟨h1, h2, h3, h4⟩ := ih h
        refine ⟨by omega, h2, h3, fun i h5 h6 => ?_⟩
        by_cases hi : i = m
        · subst hi; unfold eqL; simp [hv, hq]
        · exact h4 i h5 (by omega)
      · rename_i hv
        cases h
        exact ⟨by omega, hq, hv, fun i h5 h6 => by omega⟩
theorem lastF_none {L : Int} {l : List Smp} {m : Nat} (h : lastF L l m = none) (i : Nat) (hi : i < m) (hq : (atS l i).q ≠ 2) (hv : (atS l i).v ≠ L) : ∃ j, i < j ∧ j < m ∧ eqL L (atS l j) = false := by
  induction m with
  | zero => omega
  | succ m ih =>
    unfold lastF at h
    by_cases him : i = m
    · subst him
      rw [if_neg hq, if_neg hv] at h
      cases h
    · split at h
      · rename_i hqm
        exact ⟨m, by omega, by omega, by unfold eqL; simp [hqm]⟩
      · split at h
        · obtain ⟨j, h1, h2, h3⟩ := ih h (by omega)
          exact ⟨j, h1, by omega, h3⟩
        · cases h
theorem opp_ne {L : Int} {a b : Smp} (h : opp L a b = true) : a.v ≠ L ∧ b.v ≠ L := by
  unfold opp at h
  simp only [Bool.or_eq_true, Bool.and_eq_true, decide_eq_true_eq] at h
  omega
/-- Only the last sample can pass. -/
theorem crs_last {L f t : Int} {l : List Smp} {i m : Nat} (hm : m < l.length) (hi : i < m) (h : crs L f t l i m ≠ []) : lastF L l m = some i := by
  have hc : crC L l i m = true := by
    unfold crs at h
    split at h
    · rename_i h1; exact h1.1
    · exact absurd rfl h
  unfold crC at hc
  simp only [Bool.and_eq_true, decide_eq_true_eq] at hc
  obtain ⟨⟨⟨h1, h2⟩, h3⟩, h4⟩ := hc
  have hb := (btw_iff (by omega)).1 h1
  have hv := (opp_ne h4).1
  cases hl : lastF L l m with
  | none =>
    obtain ⟨j, a, b, c⟩ := lastF_none hl i hi h2 hv
    rw [hb j a b] at c; cases c
  | some j =>
    obtain ⟨a, b, c, d⟩ := lastF_some hl
    rcases Nat.lt_trichotomy i j with h5 | h5 | h5
    · have := hb j h5 a
      unfold eqL at this; simp at this; exact absurd this.1 c
    · rw [h5]
    · have := d i h5 hi
      unfold eqL at this; simp at this; exact absurd this.1 hv
theorem rowF_eq {L f t : Int} {l : List Smp} {i : Nat} (h : (atS l i).v = L) (m : Nat) : rowF L f t l i m = [] := by
  induction m with
  | zero => rfl
  | succ m ih =>
    unfold rowF
    rw [ih]
    have : crs L f t l i m = [] := by
      unfold crs
      rw [if_neg]
      rintro ⟨h1, _⟩
      unfold crC at h1
      simp only [Bool.and_eq_true] at h1
      exact (opp_ne h1.2).1 h
    rw [this]; simp
theorem rowF_small {L f t : Int} {l : List Smp} {i : Nat} (m : Nat) (h : m ≤ i + 1) : rowF L f t l i m = [] := by
  induction m with
  | zero => rfl
  | succ m ih => unfold rowF; rw [ih (by omega), if_neg (by omega)]; rfl
/-- One more sample at the end of each row. -/
theorem allF_step {L f t : Int} {l : List Smp} {m : Nat} (hm : m < l.length) (n : Nat) (hn : n ≤ m) :
    allF L f t l (m + 1) n = allF L f t l m n ++ (match lastF L l m with | some j => if j < n then crs L f t l j m else [] | none => []) := by
  induction n with
  | zero => unfold allF; cases lastF L l m <;> simp
  | succ n ih =>
    unfold allF
    rw [ih (by omega)]
    have hr : rowF L f t l n (m + 1) = rowF L f t l n m ++ crs L f t l n m := by
      conv => lhs; unfold rowF
      rw [if_pos (by omega)]
    rw [hr]
    cases hl : lastF L l m with
    | none =>
      have : crs L f t l n m = [] := by
        by_cases h : crs L f t l n m = []
        · exact h
        · have := crs_last hm (by omega) h; rw [hl] at this; cases this
      rw [this]; simp
    | some j =>
      obtain ⟨a, b, c, d⟩ := lastF_some hl
      simp only
      rcases Nat.lt_trichotomy j n with h | h | h
      · have h1 : rowF L f t l n m = [] := by
          have := d n h (by omega)
          unfold eqL at this; simp at this
          exact rowF_eq this.1 m
        have h2 : crs L f t l n m = [] := by
          by_cases h2 : crs L f t l n m = []
          · exact h2
          · have := crs_last hm (by omega) h2; rw [hl] at this; cases this; omega
        rw [h1, h2, if_pos h, if_pos (by omega)]; simp
      · subst h
        rw [if_neg (by omega), if_pos (by omega)]; simp
      · have h2 : crs L f t l n m = [] := by
          by_cases h2 : crs L f t l n m = []
          · exact h2
          · have := crs_last hm (by omega) h2; rw [hl] at this; cases this; omega
        rw [h2, if_neg (by omega), if_neg (by omega)]; simp
theorem out_all {L f t : Int} {l : List Smp} (m : Nat) (hm : m ≤ l.length) : outF L f t l m = allF L f t l m m := by
  induction m with
  | zero => rfl
  | succ m ih =>
    unfold outF allF
    rw [ih (by omega), allF_step (by omega) m (Nat.le_refl _), rowF_small (m + 1) (by omega)]
    unfold newF
    cases hl : lastF L l m with
    | none => simp
    | some j => simp only; rw [if_pos (lastF_some hl).1]; simp
theorem outF_length {L f t : Int} {l : List Smp} (m : Nat) : (outF L f t l m).length ≤ m := by
  induction m with
  | zero => simp [outF]
  | succ m ih =>
    unfold outF
    have : (newF L f t l m).length ≤ 1 := by
      unfold newF
      cases lastF L l m with
      | none => simp
      | some j => unfold crs; simp only; split <;> simp
    rw [List.length_append]; omega
end Go.Proofs.Ytblbfpokkpkcjaa
