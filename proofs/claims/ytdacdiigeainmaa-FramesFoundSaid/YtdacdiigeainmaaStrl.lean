/- The mathematics of stretches: the parts of a window in which one sample counts. -/
import Derived.Test.YtdacdiigeainmaaSlim
import Derived.Test.YtdacdiigeainmaaSerr
namespace Go.Proofs.Ytdacdiigeainmaa
open Go.RowKit
set_option linter.unusedVariables false
set_option linter.unusedSimpArgs false

structure Str where
  a : Int
  b : Int
  s : Smp

def strA (l : List Smp) (f : Int) (i : Nat) : Int := if (atS l i).t < f then f else (atS l i).t
def strB (l : List Smp) (t : Int) (i : Nat) : Int := if i + 1 < l.length ∧ (atS l (i + 1)).t < t then (atS l (i + 1)).t else t
def strOne (l : List Smp) (f t : Int) (i : Nat) : List Str := if strA l f i < strB l t i then [⟨strA l f i, strB l t i, atS l i⟩] else []
def strTo (l : List Smp) (f t : Int) : Nat → List Str
  | 0 => []
  | k + 1 => strTo l f t k ++ strOne l f t k
def strL (l : List Smp) (f t : Int) : List Str := strTo l f t l.length

theorem strTo_long (l : List Smp) (f t : Int) (k : Nat) : (strTo l f t k).length ≤ k := by
  induction k with
  | zero => simp [strTo]
  | succ k ih =>
    have h : (strOne l f t k).length ≤ 1 := by unfold strOne; split <;> simp
    simp only [strTo, List.length_append]; omega
theorem strL_long (l : List Smp) (f t : Int) : (strL l f t).length ≤ l.length := strTo_long l f t _

/-- The first sample that can count: the last one not after the beginning, or the first one. -/
def strF (l : List Smp) (f : Int) : Nat := posF l (f + 1) - 1

theorem strOne_before {l : List Smp} {f t : Int} (h : Rise none l) {i : Nat} (hi : i < strF l f) : strOne l f t i = [] := by
  unfold strF at hi
  have hle := posF_le l (f + 1)
  have h1 : (atS l (i + 1)).t < f + 1 := by
    have := posF_iff l (f + 1) none h (i + 1) (by omega)
    omega
  unfold strOne
  rw [if_neg]
  unfold strA strB
  split <;> split <;> omega
theorem strOne_behind {l : List Smp} {f t : Int} (h : Rise none l) {i : Nat} (hi : i < l.length) (hp : posF l t ≤ i) : strOne l f t i = [] := by
  have h1 : t ≤ (atS l i).t := (posF_iff l t none h i hi).2 hp
  unfold strOne
  rw [if_neg]
  unfold strA strB
  split <;> split <;> omega
theorem strOne_in {l : List Smp} {f t : Int} (h : Rise none l) (hft : f < t) {i : Nat} (h1 : strF l f ≤ i) (h2 : i < posF l t) : strA l f i < strB l t i ∧ strOne l f t i = [⟨strA l f i, strB l t i, atS l i⟩] := by
  have hle := posF_le l t
  have h3 : (atS l i).t < t := by
    have := posF_iff l t none h i (by omega)
    omega
  have h4 : i + 1 < l.length → f + 1 ≤ (atS l (i + 1)).t ∧ (atS l i).t < (atS l (i + 1)).t := fun hlt =>
    ⟨(posF_iff l (f + 1) none h (i + 1) hlt).2 (by unfold strF at h1; omega), rise_ltA h i (i + 1) (by omega) hlt⟩
  have h5 : strA l f i < strB l t i := by
    unfold strA strB
    split <;> split <;> rename_i h6 <;> (try have := h4 h6.1) <;> omega
  exact ⟨h5, by unfold strOne; rw [if_pos h5]⟩
theorem strTo_first {l : List Smp} {f t : Int} (h : Rise none l) (k : Nat) (hk : k ≤ strF l f) : strTo l f t k = [] := by
  induction k with
  | zero => rfl
  | succ k ih => rw [strTo, ih (by omega), strOne_before h (by omega)]; rfl
theorem strTo_behind {l : List Smp} {f t : Int} (h : Rise none l) (k : Nat) (hk : posF l t + k ≤ l.length) : strTo l f t (posF l t + k) = strTo l f t (posF l t) := by
  induction k with
  | zero => rfl
  | succ k ih => rw [← Nat.add_assoc, strTo, ih (by omega), strOne_behind h (by omega) (by omega)]; simp
theorem strL_pos {l : List Smp} {f t : Int} (h : Rise none l) : strL l f t = strTo l f t (posF l t) := by
  have hle := posF_le l t
  have := strTo_behind (f := f) (t := t) h (l.length - posF l t) (by omega)
  rwa [show posF l t + (l.length - posF l t) = l.length from by omega] at this
theorem strL_empty {l : List Smp} {f t : Int} (hft : t ≤ f) : strL l f t = [] := by
  have : ∀ k, strTo l f t k = [] := fun k => by
    induction k with
    | zero => rfl
    | succ k ih =>
      rw [strTo, ih]
      unfold strOne
      rw [if_neg (by unfold strA strB; split <;> split <;> omega)]
      rfl
  exact this _
theorem strF_le {l : List Smp} {f t : Int} (hft : f < t) : strF l f ≤ posF l t := by
  have := posF_mono l (f := f + 1) (t := t) (by omega)
  unfold strF; omega

/-- What holds of a stretch of a right series in a right window. -/
def StrOk (f t : Int) (x : Str) : Prop := f ≤ x.a ∧ x.a < x.b ∧ x.b ≤ t ∧ (-1000000 ≤ x.s.v ∧ x.s.v ≤ 1000000) ∧ (0 ≤ x.s.t ∧ x.s.t ≤ 345686399999) ∧ (0 ≤ x.s.q ∧ x.s.q ≤ 2)
theorem strA_ge (l : List Smp) (f : Int) (i : Nat) : f ≤ strA l f i := by unfold strA; split <;> omega
theorem strB_le (l : List Smp) (t : Int) (i : Nat) : strB l t i ≤ t := by unfold strB; split <;> omega
theorem strTo_ok {l : List Smp} {f t : Int} (hS : serErr l = 0) (k : Nat) (hk : k ≤ l.length) : ∀ x ∈ strTo l f t k, StrOk f t x := by
  induction k with
  | zero => intro x hx; cases hx
  | succ k ih =>
    intro x hx
    rw [strTo, List.mem_append] at hx
    rcases hx with hx | hx
    · exact ih (by omega) x hx
    · unfold strOne at hx
      split at hx
      · rename_i h
        simp only [List.mem_singleton] at hx
        subst hx
        have hvt := serErr_vt hS k
        have hg := smpErr_good ((serErr_good hS).2 (atS l k) (by rw [← atS_eq l k (by omega)]; exact List.getElem_mem _))
        exact ⟨strA_ge l f k, h, strB_le l t k, hvt.1, hvt.2, hg.2.1⟩
      · cases hx
theorem strL_ok {l : List Smp} {f t : Int} (hS : serErr l = 0) : ∀ x ∈ strL l f t, StrOk f t x := strTo_ok hS _ (Nat.le_refl _)

/-- Stretches that follow each other: each ends before, or where, the next one begins. -/
def Chain : Int → List Str → Prop
  | _, [] => True
  | p, x :: r => p ≤ x.a ∧ x.a < x.b ∧ Chain x.b r
theorem Chain.snoc {p : Int} {r : List Str} {x : Str} (h : Chain p r) (hp : p ≤ x.a) (hr : ∀ y ∈ r, y.b ≤ x.a) (hx : x.a < x.b) : Chain p (r ++ [x]) := by
  induction r generalizing p with
  | nil => exact ⟨hp, hx, trivial⟩
  | cons y r ih => exact ⟨h.1, h.2.1, ih h.2.2 (hr y (by simp)) (fun z hz => hr z (by simp [hz]))⟩
theorem Chain.weak {p q : Int} {r : List Str} (h : Chain p r) (hq : q ≤ p) : Chain q r := by
  cases r with
  | nil => trivial
  | cons y r => exact ⟨by have := h.1; omega, h.2⟩
theorem Chain.filter {p : Int} {r : List Str} (h : Chain p r) (c : Str → Bool) : Chain p (r.filter c) := by
  induction r generalizing p with
  | nil => trivial
  | cons y r ih =>
    rw [List.filter_cons]
    have h1 := ih h.2.2
    split
    · exact ⟨h.1, h.2.1, h1⟩
    · exact h1.weak (by have := h.1; have := h.2.1; omega)
theorem strTo_chain {l : List Smp} {f t : Int} (h : Rise none l) (k : Nat) (hk : k ≤ l.length) : Chain f (strTo l f t k) ∧ ∀ y ∈ strTo l f t k, k < l.length → y.b ≤ (atS l k).t := by
  induction k with
  | zero => exact ⟨trivial, fun y hy => by cases hy⟩
  | succ k ih =>
    obtain ⟨h1, h2⟩ := ih (by omega)
    have h3 : k + 1 < l.length → (atS l k).t < (atS l (k + 1)).t := fun hlt => rise_ltA h k (k + 1) (by omega) hlt
    rw [strTo]
    unfold strOne
    split
    · rename_i hab
      refine ⟨h1.snoc (strA_ge l f k) (fun y hy => ?_) hab, fun y hy hlt => ?_⟩
      · have := h2 y hy (by omega)
        simp only
        unfold strA; split <;> omega
      · rw [List.mem_append] at hy
        rcases hy with hy | hy
        · have := h2 y hy (by omega); have := h3 hlt; omega
        · simp only [List.mem_singleton] at hy
          subst hy
          simp only
          unfold strB; split <;> omega
    · rw [List.append_nil]
      exact ⟨h1, fun y hy hlt => by have := h2 y hy (by omega); have := h3 hlt; omega⟩
theorem strL_chain {l : List Smp} {f t : Int} (h : Rise none l) : Chain f (strL l f t) := (strTo_chain h _ (Nat.le_refl _)).1
end Go.Proofs.Ytdacdiigeainmaa
