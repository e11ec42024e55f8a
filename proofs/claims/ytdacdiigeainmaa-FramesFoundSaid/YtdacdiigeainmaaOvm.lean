/- What is wrong with frames, and what two lists of frames have in common (mathematics). -/
import Derived.Test.YtdacdiigeainmaaTrg
namespace Go.Proofs.Ytdacdiigeainmaa
open Go.RowKit
set_option linter.unusedVariables false
set_option linter.unusedSimpArgs false

/-- What is wrong with frames that must not begin before e. -/
def frsFrom (e : Int) : List (Int × Int) → Int
  | [] => 0
  | y :: l => if ¬ (0 ≤ y.1 ∧ y.1 < y.2 ∧ y.2 ≤ 345686400000) then 1 else if y.1 < e then 7 else frsFrom y.2 l
def frsErr (l : List (Int × Int)) : Int := if 2000 < l.length then 2 else frsFrom 0 l
/-- Where the frame before the j-th ends. -/
def endG (l : List (Int × Int)) : Nat → Int
  | 0 => 0
  | j + 1 => (atW l j).2
theorem frs_step {l : List (Int × Int)} {j : Nat} (hj : j < l.length) : frsFrom (endG l j) (l.drop j) = if ¬ (0 ≤ (atW l j).1 ∧ (atW l j).1 < (atW l j).2 ∧ (atW l j).2 ≤ 345686400000) then 1 else if (atW l j).1 < endG l j then 7 else frsFrom (endG l (j + 1)) (l.drop (j + 1)) := by
  rw [List.drop_eq_getElem_cons hj, atW_eq l j hj]
  rfl
theorem frs_end (l : List (Int × Int)) : frsFrom (endG l l.length) (l.drop l.length) = 0 := by rw [List.drop_length]; rfl

/-- Right frames that do not begin before e. -/
def FrR (e : Int) : List (Int × Int) → Prop
  | [] => True
  | y :: l => (0 ≤ y.1 ∧ y.1 < y.2 ∧ y.2 ≤ 345686400000) ∧ e ≤ y.1 ∧ FrR y.2 l
theorem frR_of {e : Int} {l : List (Int × Int)} (h : frsFrom e l = 0) : FrR e l := by
  induction l generalizing e with
  | nil => trivial
  | cons y l ih =>
    simp only [frsFrom] at h
    split at h
    · omega
    · rename_i h1
      split at h
      · omega
      · rename_i h2
        exact ⟨Classical.not_not.1 h1, by omega, ih h⟩
theorem FrR.weak {e e' : Int} {l : List (Int × Int)} (h : FrR e l) (he : e' ≤ e) : FrR e' l := by
  cases l with
  | nil => trivial
  | cons y l => exact ⟨h.1, by have := h.2.1; omega, h.2.2⟩
theorem FrR.behind {e : Int} {l : List (Int × Int)} (h : FrR e l) : ∀ y ∈ l, e ≤ y.1 ∧ 0 ≤ y.1 ∧ y.1 < y.2 ∧ y.2 ≤ 345686400000 := by
  induction l generalizing e with
  | nil => intro y hy; cases hy
  | cons x l ih =>
    intro y hy
    obtain ⟨h1, h2, h3⟩ := h
    rcases List.mem_cons.1 hy with rfl | hy
    · exact ⟨h2, h1⟩
    · have := ih h3 y hy
      exact ⟨by omega, this.2⟩

/-- What two frames have in common. -/
def ovl (x y : Int × Int) : List (Int × Int) := if (if x.1 ≤ y.1 then y.1 else x.1) < (if x.2 ≤ y.2 then x.2 else y.2) then [(if x.1 ≤ y.1 then y.1 else x.1, if x.2 ≤ y.2 then x.2 else y.2)] else []
theorem ovl_none {x y : Int × Int} (h : x.2 ≤ y.1 ∨ y.2 ≤ x.1) : ovl x y = [] := by
  unfold ovl
  rw [if_neg]
  split <;> split <;> omega
/-- What two lists have in common, by pairs. -/
def ovA (a b : List (Int × Int)) : List (Int × Int) := a.flatMap fun x => b.flatMap fun y => ovl x y
/-- The same, going through both at once. -/
def ovP : List (Int × Int) → List (Int × Int) → List (Int × Int)
  | x :: a, y :: b => ovl x y ++ if x.2 < y.2 then ovP a (y :: b) else ovP (x :: a) b
  | _, _ => []
  termination_by a b => a.length + b.length
theorem ovP_nil (b : List (Int × Int)) : ovP [] b = [] := by rw [ovP.eq_def]
theorem ovP_nil2 (a : List (Int × Int)) : ovP a [] = [] := by
  cases a <;> rw [ovP.eq_def]
theorem ovP_cons (x y : Int × Int) (a b : List (Int × Int)) : ovP (x :: a) (y :: b) = ovl x y ++ if x.2 < y.2 then ovP a (y :: b) else ovP (x :: a) b := by rw [ovP.eq_def]
theorem flat_none {α β : Type} {l : List α} {f : α → List β} (h : ∀ x ∈ l, f x = []) : l.flatMap f = [] := by
  rw [List.flatMap_eq_nil_iff]; exact h
theorem ovA_nil2 (a : List (Int × Int)) : ovA a [] = [] := flat_none fun x _ => rfl
theorem ov_eq (n : Nat) : ∀ (a b : List (Int × Int)) (e f : Int), a.length + b.length ≤ n → FrR e a → FrR f b → ovP a b = ovA a b := by
  induction n with
  | zero =>
    intro a b e f hn _ _
    rw [List.eq_nil_of_length_eq_zero (by omega : a.length = 0), ovP_nil]
    rfl
  | succ n ih =>
    intro a b e f hn ha hb
    cases a with
    | nil => rw [ovP_nil]; rfl
    | cons x a =>
      cases b with
      | nil => rw [ovP_nil2, ovA_nil2]
      | cons y b =>
        simp only [List.length_cons] at hn
        rw [ovP_cons]
        by_cases h : x.2 < y.2
        · rw [if_pos h, ih a (y :: b) x.2 f (by simp only [List.length_cons]; omega) ha.2.2 hb]
          have h1 : b.flatMap (fun y => ovl x y) = [] := flat_none fun z hz => ovl_none (.inl (by have := hb.2.2.behind z hz; omega))
          unfold ovA
          rw [List.flatMap_cons, List.flatMap_cons, h1, List.append_nil]
        · rw [if_neg h, ih (x :: a) b e y.2 (by simp only [List.length_cons]; omega) ha hb.2.2]
          have h1 : ∀ z ∈ a, ovl z y = [] := fun z hz => ovl_none (.inr (by have := ha.2.2.behind z hz; omega))
          have h2 : a.flatMap (fun z => (y :: b).flatMap fun w => ovl z w) = a.flatMap fun z => b.flatMap fun w => ovl z w := by
            rw [List.flatMap_def, List.flatMap_def]
            congr 1
            refine List.map_congr_left fun z hz => ?_
            rw [List.flatMap_cons, h1 z hz, List.nil_append]
          unfold ovA
          rw [List.flatMap_cons, List.flatMap_cons, List.flatMap_cons, h2, List.append_assoc]
/-- How long windows are. -/
def sumW2 (l : List (Int × Int)) : Int := l.foldl (fun n w => n + (w.2 - w.1)) 0
theorem sumW2_snoc (l : List (Int × Int)) (w : Int × Int) : sumW2 (l ++ [w]) = sumW2 l + (w.2 - w.1) := by simp [sumW2]
theorem sumW2_bound {l : List (Int × Int)} (h : ∀ y ∈ l, 0 ≤ y.1 ∧ y.1 < y.2 ∧ y.2 ≤ 345686400000) : 0 ≤ sumW2 l ∧ sumW2 l ≤ l.length * 345686400000 := by
  have hh : ∀ n, n ≤ l.length → 0 ≤ sumW2 (l.take n) ∧ sumW2 (l.take n) ≤ n * 345686400000 := fun n => by
    induction n with
    | zero => intro _; simp [sumW2]
    | succ n ih =>
      intro hn
      have h1 := ih (by omega)
      have h2 := h _ (List.getElem_mem (show n < l.length by omega))
      rw [List.take_succ_eq_append_getElem (by omega), sumW2_snoc]
      omega
  have := hh l.length (Nat.le_refl _)
  rwa [List.take_length] at this

/-- A slice of windows without its first one. -/
theorem RdWdw.tail {W : World} {b off n c : Nat} {x : Int × Int} {l : List (Int × Int)} (h : RdWdw W (.slice (some ⟨b, off, none⟩) n c) (x :: l)) (q : Option Addr) (hq : 0 < l.length → q = some ⟨b, off + 2, none⟩) : RdWdw W (.slice q l.length (c - 1)) l := by
  obtain ⟨h1, pa, ca, hv, h2, h3, h4⟩ := h
  cases hv
  simp only [List.length_cons] at h2 h4
  refine ⟨wdwCells_length l, q, c - 1, rfl, by omega, by omega, fun hl => ?_⟩
  obtain ⟨b', off', cur, fr, hp, hh, hc⟩ := h4 (by omega)
  cases hp
  rw [hq hl]
  refine ⟨b, off + 2, cur, fr, rfl, hh, fun j hj => ?_⟩
  have e : wdwCells (x :: l) = [.int .i64 x.1, .int .i64 x.2] ++ wdwCells l := by simp [wdwCells]
  have := hc (j + 2) (by omega)
  rw [show off + 2 + j = off + (j + 2) by omega, this, e, List.getElem?_append_right (by simp)]
  simp
end Go.Proofs.Ytdacdiigeainmaa
