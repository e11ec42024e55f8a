/- The mathematics of aggregates: sums, times and extremes over stretches. -/
import Derived.Test.YtdacdiigeainmaaRns
import Derived.Test.YtdacdiigeainmaaDiv
namespace Go.Proofs.Ytdacdiigeainmaa
open Go.RowKit
set_option linter.unusedVariables false
set_option linter.unusedSimpArgs false

/-- The time with a value, the least and the greatest value, the integral. -/
structure Ag where
  g : Int
  mn : Int
  mx : Int
  s : Int
def agT (A : Ag) (v a b : Int) : Ag :=
  ⟨A.g + (b - a), if (if A.g = 0 then v else A.mn) ≤ v then (if A.g = 0 then v else A.mn) else v, if (if A.g = 0 then v else A.mx) < v then v else (if A.g = 0 then v else A.mx), A.s + v * (b - a)⟩
def agR (r : List Rn) : Ag := r.foldl (fun A x => agT A x.1.1 x.1.2.1 x.1.2.2) ⟨0, 0, 0, 0⟩
def agS (r : List Str) : Ag := r.foldl (fun A x => agT A x.s.v x.a x.b) ⟨0, 0, 0, 0⟩
theorem agR_snoc (r : List Rn) (x : Rn) : agR (r ++ [x]) = agT (agR r) x.1.1 x.1.2.1 x.1.2.2 := by simp [agR]
theorem agS_snoc (r : List Str) (x : Str) : agS (r ++ [x]) = agT (agS r) x.s.v x.a x.b := by simp [agS]
theorem snocI {α : Type} {P : List α → Prop} (h0 : P []) (h1 : ∀ r x, P r → P (r ++ [x])) (l : List α) : P l := by
  have h : ∀ n (l : List α), l.length = n → P l := fun n => by
    induction n with
    | zero => intro l hl; rw [List.eq_nil_of_length_eq_zero hl]; exact h0
    | succ n ih =>
      intro l hl
      have hne : l ≠ [] := fun e => by rw [e] at hl; cases hl
      rw [← List.dropLast_concat_getLast hne]
      exact h1 _ _ (ih _ (by rw [List.length_dropLast, hl]; rfl))
  exact h _ l rfl

theorem agR_good (r : List Rn) : (r.length : Int) ≤ (agR r).g ∧ (agR r).g ≤ r.length * 345686400000 := by
  refine snocI (P := fun r => (r.length : Int) ≤ (agR r).g ∧ (agR r).g ≤ r.length * 345686400000) ?_ (fun r x ih => ?_) r
  · exact ⟨by simp [agR], by simp [agR]⟩
  · rw [agR_snoc]
    have := x.2
    simp only [agT, List.length_append, List.length_singleton]
    omega
theorem agR_minmax (r : List Rn) : (-1000000 ≤ (agR r).mn ∧ (agR r).mn ≤ 1000000) ∧ (-1000000 ≤ (agR r).mx ∧ (agR r).mx ≤ 1000000) := by
  refine snocI (P := fun r => (-1000000 ≤ (agR r).mn ∧ (agR r).mn ≤ 1000000) ∧ (-1000000 ≤ (agR r).mx ∧ (agR r).mx ≤ 1000000)) ?_ (fun r x ih => ?_) r
  · simp [agR]
  · rw [agR_snoc]
    have := x.2
    simp only [agT]
    split <;> split <;> split <;> omega

theorem agR_map (f t q : Int) (h0 : 0 ≤ f) (ht : t ≤ 345686400000) (r : List Str) : (∀ x ∈ r, StrOk f t x) → agR (rnsOf q r) = agS (r.filter fun x => decide (x.s.q ≤ q)) := by
  refine snocI (P := fun r => (∀ x ∈ r, StrOk f t x) → agR (rnsOf q r) = agS (r.filter fun x => decide (x.s.q ≤ q))) (fun _ => rfl) (fun r x ih hr => ?_) r
  have hx := hr x (by simp)
  have ih := ih (fun y hy => hr y (by simp [hy]))
  rw [rnsOf_snoc, List.filter_append]
  unfold StrOk at hx
  have hm := mkRn_eq (v := x.s.v) (a := x.a) (b := x.b) ⟨hx.2.2.2.1, by omega⟩
  split
  · rename_i hq
    rw [agR_snoc, ih, show [x].filter (fun x => decide (x.s.q ≤ q)) = [x] by simp [hq], agS_snoc, hm]
  · rename_i hq
    rw [ih, show [x].filter (fun x => decide (x.s.q ≤ q)) = [] by simp [hq], List.append_nil]

/-- The time of stretches, and that times the greatest value, bound the sums. -/
theorem agS_long {p t : Int} (r : List Str) : Chain p r → (∀ x ∈ r, x.b ≤ t ∧ -1000000 ≤ x.s.v ∧ x.s.v ≤ 1000000) → p ≤ t → ∀ (A : Ag), 0 ≤ A.g → A.g ≤ (r.foldl (fun A x => agT A x.s.v x.a x.b) A).g ∧ (r.foldl (fun A x => agT A x.s.v x.a x.b) A).g ≤ A.g + (t - p) ∧
    A.s - 1000000 * ((r.foldl (fun A x => agT A x.s.v x.a x.b) A).g - A.g) ≤ (r.foldl (fun A x => agT A x.s.v x.a x.b) A).s ∧ (r.foldl (fun A x => agT A x.s.v x.a x.b) A).s ≤ A.s + 1000000 * ((r.foldl (fun A x => agT A x.s.v x.a x.b) A).g - A.g) := by
  induction r generalizing p with
  | nil => intro _ _ hp A hA; simp; omega
  | cons x r ih =>
    intro hc hx hp A hA
    obtain ⟨h1, h2, h3⟩ := hc
    have hb := hx x (by simp)
    have hg : (agT A x.s.v x.a x.b).g = A.g + (x.b - x.a) := rfl
    have hs : (agT A x.s.v x.a x.b).s = A.s + x.s.v * (x.b - x.a) := rfl
    have := ih h3 (fun y hy => hx y (by simp [hy])) hb.1 (agT A x.s.v x.a x.b) (by rw [hg]; omega)
    rw [List.foldl_cons]
    generalize List.foldl (fun A x => agT A x.s.v x.a x.b) (agT A x.s.v x.a x.b) r = Z at *
    rw [hg, hs] at this
    have hu : x.s.v * (x.b - x.a) ≤ 1000000 * (x.b - x.a) := Int.mul_le_mul_of_nonneg_right hb.2.2 (by omega)
    have hl : -1000000 * (x.b - x.a) ≤ x.s.v * (x.b - x.a) := Int.mul_le_mul_of_nonneg_right hb.2.1 (by omega)
    generalize x.s.v * (x.b - x.a) = m at *
    omega

/-- The aggregates of a window. -/
def valL (l : List Smp) (f t : Int) : List Str := (strL l f t).filter fun x => decide (x.s.q ≤ 1)
def aggV (l : List Smp) (f t : Int) : Ag := agS (valL l f t)
def avgV (l : List Smp) (f t : Int) : Int × Int := if 0 < (aggV l f t).g then fracOf (aggV l f t).s (aggV l f t).g else (0, 0)
theorem valL_ok {l : List Smp} {f t : Int} (hS : serErr l = 0) : ∀ x ∈ valL l f t, StrOk f t x := fun x hx => strL_ok hS x ((List.mem_filter.1 hx).1)
theorem aggV_is {l : List Smp} {f t : Int} (hS : serErr l = 0) (hW : 0 ≤ f ∧ f ≤ t ∧ t ≤ 345686400000) : agR (rnsOf 1 (strL l f t)) = aggV l f t := agR_map f t 1 hW.1 hW.2.2 _ (strL_ok hS)
theorem aggV_bound {l : List Smp} {f t : Int} (hS : serErr l = 0) (hW : 0 ≤ f ∧ f ≤ t ∧ t ≤ 345686400000) : (0 ≤ (aggV l f t).g ∧ (aggV l f t).g ≤ 345686400000) ∧ (-345686400000000000 ≤ (aggV l f t).s ∧ (aggV l f t).s ≤ 345686400000000000) := by
  have h := agS_long (p := f) (t := t) (valL l f t) ((strL_chain (serErr_rise hS)).filter _) (fun x hx => by have := valL_ok hS x hx; unfold StrOk at this; omega) hW.2.1 ⟨0, 0, 0, 0⟩ (Int.le_refl _)
  rw [show List.foldl (fun A x => agT A x.s.v x.a x.b) ⟨0, 0, 0, 0⟩ (valL l f t) = aggV l f t from rfl] at h
  dsimp only at h
  omega
theorem aggV_minmax {l : List Smp} {f t : Int} (hS : serErr l = 0) (hW : 0 ≤ f ∧ f ≤ t ∧ t ≤ 345686400000) : (-1000000 ≤ (aggV l f t).mn ∧ (aggV l f t).mn ≤ 1000000) ∧ (-1000000 ≤ (aggV l f t).mx ∧ (aggV l f t).mx ≤ 1000000) := by
  rw [← aggV_is hS hW]; exact agR_minmax _

theorem wrap64_twice (a b : Int) : wrap64 (wrap64 a + b) = wrap64 (a + b) := by unfold wrap64; omega
end Go.Proofs.Ytdacdiigeainmaa
