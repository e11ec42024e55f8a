/- Plain mathematics of counters: what Total adds up, what Count counts. -/
import Derived.Test.YtblbfpokkpkcjaaWinb
import Derived.Test.YtblbfpokkpkcjaaSlim
namespace Go.Proofs.Ytblbfpokkpkcjaa
open Go.RowKit
set_option linter.unusedVariables false
set_option linter.unusedSimpArgs false

theorem snocInd {α : Type} {P : List α → Prop} (h0 : P []) (h1 : ∀ l x, P l → P (l ++ [x])) (l : List α) : P l := by
  have h : ∀ r : List α, P r.reverse := fun r => by
    induction r with
    | nil => simpa using h0
    | cons x r ih => rw [List.reverse_cons]; exact h1 _ _ ih
  have := h l.reverse
  rwa [List.reverse_reverse] at this
def incI (a n roll : Int) : Int := if n < a then n + roll - a else n - a
/-- The sum and the last value after some samples. -/
def tStep (roll : Int) (s : Int × Int) (x : Smp) : Int × Int := if x.q = 2 then s else (if 0 ≤ s.2 then s.1 + incI s.2 x.v roll else s.1, x.v)
def tSt (roll : Int) (l : List Smp) : Int × Int := l.foldl (tStep roll) (0, -1)
def tOk (roll : Int) (x : Smp) : Bool := decide (x.q = 2) || inB x.v 0 (roll - 1)
def tAll (roll : Int) (l : List Smp) : Bool := l.all (tOk roll)
theorem tSt_snoc (roll : Int) (l : List Smp) (x : Smp) : tSt roll (l ++ [x]) = tStep roll (tSt roll l) x := by unfold tSt; simp
theorem take_snocS (l : List Smp) (i : Nat) (h : i < l.length) : l.take (i + 1) = l.take i ++ [atS l i] := by
  rw [List.take_succ_eq_append_getElem h, atS_eq l i h]
theorem tSt_succ (roll : Int) (l : List Smp) (i : Nat) (h : i < l.length) : tSt roll (l.take (i + 1)) = tStep roll (tSt roll (l.take i)) (atS l i) := by rw [take_snocS l i h, tSt_snoc]
theorem tAll_succ (roll : Int) (l : List Smp) (i : Nat) (h : i < l.length) : tAll roll (l.take (i + 1)) = (tAll roll (l.take i) && tOk roll (atS l i)) := by
  rw [take_snocS l i h]; unfold tAll; simp
theorem tAll_false {roll : Int} {l : List Smp} {i : Nat} (h : i < l.length) (hx : tOk roll (atS l i) = false) : tAll roll l = false := by
  unfold tAll
  rw [List.all_eq_false]
  refine ⟨l[i], List.getElem_mem h, ?_⟩
  rw [atS_eq l i h, hx]; simp
theorem tSt_bound {roll : Int} (hr : 1 ≤ roll ∧ roll ≤ 2000000000) (l : List Smp) (h : tAll roll l = true) : (-1 ≤ (tSt roll l).2 ∧ (tSt roll l).2 ≤ roll - 1) ∧ (0 ≤ (tSt roll l).1 ∧ (tSt roll l).1 ≤ 2000000000 * (l.length : Int)) := by
  induction l using snocInd with
  | h0 => simp [tSt]; omega
  | h1 l x ih =>
    have h1 : tAll roll l = true ∧ tOk roll x = true := by unfold tAll at h ⊢; simpa using h
    have h2 := ih h1.1
    rw [tSt_snoc]
    unfold tStep
    by_cases hq : x.q = 2
    · rw [if_pos hq]; simp; omega
    · rw [if_neg hq]
      have h3 := h1.2
      unfold tOk at h3
      rw [show decide (x.q = 2) = false from by simpa using hq, Bool.false_or, inB_true] at h3
      simp only [List.length_append, List.length_singleton]
      by_cases h0 : 0 ≤ (tSt roll l).2
      · rw [if_pos h0]
        have : 0 ≤ incI (tSt roll l).2 x.v roll ∧ incI (tSt roll l).2 x.v roll ≤ 2000000000 := by unfold incI; split <;> omega
        simp; omega
      · rw [if_neg h0]; simp; omega

/-- The reference's list of values. -/
def cntF (f t : Int) (l : List Smp) : List Int := (l.filter fun x => inB x.t f t && decide (x.q ≠ 2)).map Smp.v
def rStep (roll : Int) (s : Int × Int) (n : Int) : Int × Int := ((if 0 ≤ s.2 then s.1 + (n - s.2) else s.1) + (if n < s.2 then roll else 0), n)
def rSt (roll : Int) (ns : List Int) : Int × Int := ns.foldl (rStep roll) (0, -1)
theorem cntF_slic (f t : Int) (l : List Smp) : cntF f t l = ((slicF f (t + 1) l).filter fun x => decide (x.q ≠ 2)).map Smp.v := by
  unfold cntF slicF
  rw [List.filter_filter]
  congr 1
  refine List.filter_congr fun x _ => ?_
  unfold inB outB
  rw [Bool.eq_iff_iff]
  simp
  omega
theorem rSt_eq {roll : Int} (l : List Smp) (h : tAll roll l = true) : rSt roll ((l.filter fun x => decide (x.q ≠ 2)).map Smp.v) = tSt roll l := by
  induction l using snocInd with
  | h0 => rfl
  | h1 l x ih =>
    have h1 : tAll roll l = true ∧ tOk roll x = true := by unfold tAll at h ⊢; simpa using h
    have h2 := ih h1.1
    rw [tSt_snoc, List.filter_append, List.map_append]
    unfold rSt at h2 ⊢
    rw [List.foldl_append, h2]
    unfold tStep
    by_cases hq : x.q = 2
    · rw [if_pos hq, List.filter_cons_of_neg (by simpa using hq)]; rfl
    · rw [if_neg hq, List.filter_cons_of_pos (by simpa using hq)]
      have h3 := h1.2
      unfold tOk at h3
      rw [show decide (x.q = 2) = false from by simpa using hq, Bool.false_or, inB_true] at h3
      simp only [List.filter_nil, List.map_cons, List.map_nil, List.foldl_cons, List.foldl_nil, rStep]
      generalize tSt roll l = s
      obtain ⟨a, b⟩ := s
      simp only [incI]
      refine Prod.ext ?_ rfl
      simp only
      by_cases h0 : 0 ≤ b
      · rw [if_pos h0, if_pos h0]
        split <;> omega
      · rw [if_neg h0, if_neg h0, if_neg (by omega)]; omega
theorem all_eq {roll : Int} (l : List Smp) : (((l.filter fun x => decide (x.q ≠ 2)).map Smp.v).all fun n => inB n 0 (roll - 1)) = tAll roll l := by
  induction l with
  | nil => rfl
  | cons x r ih =>
    unfold tAll at ih ⊢
    rw [List.all_cons, ← ih]
    unfold tOk
    by_cases hq : x.q = 2
    · rw [List.filter_cons_of_neg (by simpa using hq)]; simp [hq]
    · rw [List.filter_cons_of_pos (by simpa using hq), List.map_cons, List.all_cons]; simp [hq]

/-- How many samples have a quality. -/
def qCnt (q : Int) (l : List Smp) : Nat := l.countP fun x => decide (x.q = q)
def wCnt (f t q : Int) (l : List Smp) : Nat := l.countP fun x => inB x.t f (t - 1) && decide (x.q = q)
theorem wCnt_eq (f t q : Int) (l : List Smp) : wCnt f t q l = qCnt q (slicF f t l) := by
  unfold wCnt qCnt slicF
  rw [List.countP_filter]
  refine List.countP_congr fun x _ => ?_
  unfold inB outB
  simp
  constructor <;> intro h <;> omega

/-- Total. -/
def totE (l : List Smp) (f t roll : Int) : Int := orE (orE (serErr l) (winErr f t)) (if inB roll 1 2000000000 = false then 1 else if tAll roll (slicF f (t + 1) l) = true then 0 else 16)
def totV (l : List Smp) (f t roll : Int) : Int := if totE l f t roll = 0 then (tSt roll (slicF f (t + 1) l)).1 else 0
/-- Count. -/
def couE (l : List Smp) (f t q : Int) : Int := orE (orE (serErr l) (winErr f t)) (if inB q 0 2 = false then 4 else 0)
def couV (l : List Smp) (f t q : Int) : Int := if couE l f t q = 0 then (qCnt q (slicF f t l) : Int) else 0
end Go.Proofs.Ytblbfpokkpkcjaa
