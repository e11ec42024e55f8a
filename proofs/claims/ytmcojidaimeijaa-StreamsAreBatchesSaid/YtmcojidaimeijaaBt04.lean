import Derived.Test.YtmcojidaimeijaaBt02
/- Plain mathematics of the compression: what one more sample archives. -/

namespace Go.Proofs.Ytmcojidaimeijaa
open Go.RowKit
set_option linter.unusedVariables false
set_option linter.unusedSimpArgs false

def choI (l : List Smp) (ks : List Int) : List Smp := ks.map fun k => atS l k.toNat
theorem choI_app (l : List Smp) (a b : List Int) : choI l (a ++ b) = choI l a ++ choI l b := by simp [choI]
theorem atS_snoc (l : List Smp) (x : Smp) (i : Nat) (h : i < l.length) : atS (l ++ [x]) i = atS l i := by simp [atS, List.getD_eq_getElem?_getD, List.getElem?_append_left h]
theorem atS_last (l : List Smp) (x : Smp) : atS (l ++ [x]) l.length = x := by simp [atS, List.getD_eq_getElem?_getD]
theorem choI_snoc (l : List Smp) (x : Smp) (ks : List Int) (h : ∀ k ∈ ks, 0 ≤ k ∧ k < (l.length : Int)) : choI (l ++ [x]) ks = choI l ks := by
  unfold choI
  refine List.map_congr_left fun k hk => ?_
  have := h k hk
  exact atS_snoc l x _ (by omega)

/-- The moments rise, and Bad samples have the value 0. -/
structure Okl (l : List Smp) : Prop where
  lt : ∀ i k, i < k → k < l.length → (atS l i).t < (atS l k).t
  bad : ∀ j, j < l.length → (atS l j).q = 2 → (atS l j).v = 0

/-- The pivot. -/
def piv (d m : Int) (l : List Smp) : Nat := (compTo d m l l.length).2
/-- Samples were held after the pivot. -/
def beg (d m : Int) (l : List Smp) : Bool := decide (piv d m l + 1 < l.length)
/-- What has been archived. -/
def arch (d m : Int) (l : List Smp) : List Smp := choI l (compTo d m l l.length).1

theorem piv_lt {d m : Int} {l : List Smp} (h : 0 < l.length) : piv d m l < l.length := (compTo_inv d m l _ h).1

/-- All samples from the pivot on are of one quality. -/
theorem compTo_qual (d m : Int) (l : List Smp) (k : Nat) (hk : 0 < k) : ∀ j, (compTo d m l k).2 ≤ j → j < k → (atS l j).q = (atS l (compTo d m l k).2).q := by
  induction k with
  | zero => omega
  | succ k ih =>
    rcases Nat.eq_zero_or_pos k with rfl | hk0
    · intro j h1 h2
      obtain rfl : j = 0 := by omega
      simp [compTo, compStep, keepI]
    · have ih := ih hk0
      obtain ⟨h1, h2, h3, h4⟩ := compTo_inv d m l k hk0
      have hl := ih (k - 1) (by omega) (by omega)
      simp only [compTo]
      unfold compStep
      rw [if_neg (by omega)]
      by_cases hq : (atS l k).q ≠ (atS l (compTo d m l k).2).q
      · rw [if_pos hq]
        intro j a b
        simp only [keepI] at a ⊢
        obtain rfl : j = k := by omega
        rfl
      · rw [if_neg hq]
        have hq' : (atS l k).q = (atS l (compTo d m l k).2).q := by omega
        by_cases hs : shut d m l (compTo d m l k).2 k = true
        · rw [if_pos hs]
          intro j a b
          simp only [keepI] at a ⊢
          by_cases hj : j = k
          · subst hj; omega
          · obtain rfl : j = k - 1 := by omega
            rfl
        · rw [if_neg hs]
          intro j a b
          by_cases hj : j = k
          · subst hj; exact hq'
          · exact ih j a (by omega)

/-- Does a span accept the next sample? -/
def accB (m : Int) (l : List Smp) (p k : Nat) (lo hi : Int × Int) : Bool := (decide ((atS l k).t - (atS l p).t ≤ m) && !slt (slopeI l p k 0) lo) && !slt hi (slopeI l p k 0)
theorem acc_shut {d m : Int} {l : List Smp} {p k : Nat} {lo hi : Int × Int} (ho : Okl l) (hd : 0 ≤ d) (hk : k < l.length) (hp : p + 1 < k) (h1 : IsLow d l p k lo) (h2 : IsHigh d l p k hi)
    (hq : ∀ j, p ≤ j → j ≤ k → (atS l j).q = (atS l p).q) : accB m l p k lo hi = !(shut d m l p k) := by
  have hc := span_cov (d := d) ho.lt hk hp h1 h2
  have hc' : (!slt (slopeI l p k 0) lo && !slt hi (slopeI l p k 0)) = cov d l p k := by
    by_cases h : Cov d l p k
    · rw [cov_true.2 h]; obtain ⟨a, b⟩ := hc.1 h; simp [a, b]
    · rw [cov_false.2 h]
      by_cases a : slt (slopeI l p k 0) lo = false <;> by_cases b : slt hi (slopeI l p k 0) = false
      · exact absurd (hc.2 ⟨a, b⟩) h
      · simp [b]
      · simp [a]
      · simp [a]
  unfold accB shut
  rw [Bool.and_assoc, hc']
  by_cases hb : (atS l k).q = 2
  · have hz : cov d l p k = true := cov_true.2 (cov_zero hd (by have := ho.lt p k (by omega) hk; omega) (fun j a b => ho.bad j (by omega) (by rw [hq j a b, ← hq k (by omega) (Nat.le_refl _)]; exact hb)) (by omega))
    rw [hz]
    by_cases hl : (atS l k).t - (atS l p).t ≤ m
    · simp [hl, hb]
    · simp [hl, hb]; omega
  · by_cases hl : (atS l k).t - (atS l p).t ≤ m
    · simp [hl, hb]
    · simp [hl, hb]

variable {d m : Int} {l : List Smp} {x : Smp}
theorem first_step : arch d m ([] ++ [x]) = [x] ∧ piv d m ([] ++ [x]) = 0 := by simp [arch, piv, compTo, compStep, keepI, choI, atS]

theorem comp_len (h : 0 < l.length) : compTo d m (l ++ [x]) (l ++ [x]).length = compStep d m (l ++ [x]) l.length (compTo d m l l.length) := by
  rw [List.length_append, List.length_singleton]
  simp only [compTo]
  rw [compTo_snoc d m l [x] _ (Nat.le_refl _)]
theorem arch_old (h : 0 < l.length) : choI (l ++ [x]) (compTo d m l l.length).1 = arch d m l := choI_snoc l x _ (compTo_inv d m l _ h).2.2.1
theorem held_old (h : 0 < l.length) : atS (l ++ [x]) (l.length - 1) = atS l (l.length - 1) := atS_snoc l x _ (by omega)

/-- Another quality: the held sample, if it is not archived, and the new one. -/
theorem qual_step (h : 0 < l.length) (hq : x.q ≠ (atS l (piv d m l)).q) :
    arch d m (l ++ [x]) = arch d m l ++ ((if beg d m l = true then [atS l (l.length - 1)] else []) ++ [x]) ∧ piv d m (l ++ [x]) = l.length := by
  obtain ⟨h1, h2, h3, h4⟩ := compTo_inv d m l _ h
  have e : compTo d m (l ++ [x]) (l ++ [x]).length = keepI l.length (keepI (l.length - 1) (compTo d m l l.length)) := by
    rw [comp_len h]; unfold compStep; rw [if_neg (by omega), if_pos]; rw [atS_last, atS_snoc l x _ h1]; exact hq
  unfold arch piv
  rw [e]
  refine ⟨?_, rfl⟩
  by_cases hb : (compTo d m l l.length).2 = l.length - 1
  · rw [keepI_same h2 hb, keepI_other h2 (by omega)]
    have : beg d m l = false := by unfold beg piv; simp; omega
    rw [this, if_neg (by simp), choI_app, arch_old h]
    simp [arch, choI, atS_last]
  · rw [keepI_other (i := l.length - 1) h2 hb, keepI_other (by simp) (by simp; omega)]
    have : beg d m l = true := by unfold beg piv; simp; omega
    rw [this, if_pos rfl]
    simp only
    rw [choI_app, choI_app, arch_old h]
    have e1 : (((l.length - 1 : Nat) : Int)).toNat = l.length - 1 := by omega
    simp [arch, choI, atS_last]
    exact held_old h
/-- It is not accepted: the held sample. -/
theorem shut_step (h : 0 < l.length) (hq : x.q = (atS l (piv d m l)).q) (hs : shut d m (l ++ [x]) (piv d m l) l.length = true) (hb : beg d m l = true) :
    arch d m (l ++ [x]) = arch d m l ++ [atS l (l.length - 1)] ∧ piv d m (l ++ [x]) = l.length - 1 := by
  obtain ⟨h1, h2, h3, h4⟩ := compTo_inv d m l _ h
  have hb' : (compTo d m l l.length).2 ≠ l.length - 1 := by unfold beg piv at hb; simp at hb; omega
  have e : compTo d m (l ++ [x]) (l ++ [x]).length = keepI (l.length - 1) (compTo d m l l.length) := by
    rw [comp_len h]; unfold compStep; rw [if_neg (by omega), if_neg, if_pos]
    · exact hs
    · rw [atS_last, atS_snoc l x _ h1]; unfold piv at hq; omega
  unfold arch piv
  rw [e, keepI_other h2 hb']
  refine ⟨?_, rfl⟩
  simp only
  rw [choI_app, arch_old h]
  simp [arch, choI]
  exact held_old h
/-- It is accepted, or the first one after the pivot: nothing. -/
theorem open_step (h : 0 < l.length) (hq : x.q = (atS l (piv d m l)).q) (hs : shut d m (l ++ [x]) (piv d m l) l.length = false ∨ beg d m l = false) :
    arch d m (l ++ [x]) = arch d m l ∧ piv d m (l ++ [x]) = piv d m l := by
  obtain ⟨h1, h2, h3, h4⟩ := compTo_inv d m l _ h
  have e : compTo d m (l ++ [x]) (l ++ [x]).length = compTo d m l l.length := by
    rw [comp_len h]; unfold compStep; rw [if_neg (by omega), if_neg]
    · by_cases hs' : shut d m (l ++ [x]) (compTo d m l l.length).2 l.length = true
      · rw [if_pos hs']
        have hb : beg d m l = false := by
          rcases hs with hs | hs
          · unfold piv at hs; rw [hs] at hs'; cases hs'
          · exact hs
        exact keepI_same h2 (by unfold beg piv at hb; simp at hb; omega)
      · rw [if_neg hs']
    · rw [atS_last, atS_snoc l x _ h1]; unfold piv at hq; omega
  unfold arch piv
  rw [e]
  exact ⟨arch_old h, rfl⟩
/-- What is kept in the end. -/
theorem end_step (h : 0 < l.length) : choI l (compressed d m l) = arch d m l ++ (if beg d m l = true then [atS l (l.length - 1)] else []) := by
  obtain ⟨h1, h2, h3, h4⟩ := compTo_inv d m l _ h
  unfold compressed
  rw [if_neg (by omega)]
  by_cases hb : (compTo d m l l.length).2 = l.length - 1
  · rw [keepI_same h2 hb]
    have : beg d m l = false := by unfold beg piv; simp; omega
    rw [this]; simp [arch]
  · rw [keepI_other h2 hb]
    have : beg d m l = true := by unfold beg piv; simp; omega
    rw [this, if_pos rfl]
    simp only
    rw [choI_app]
    simp [arch, choI]
/-- A span's bounds after one more sample. -/
theorem isLow_snoc {p k : Nat} {s : Int × Int} (hk : k ≤ l.length) (h : IsLow d l p k s) : IsLow d (l ++ [x]) p k s := by
  obtain ⟨⟨j, a, b, rfl⟩, c⟩ := h
  have e : ∀ j, p < j → j < k → slopeI (l ++ [x]) p j (-d) = slopeI l p j (-d) := fun j a b => by unfold slopeI; rw [atS_snoc l x _ (by omega), atS_snoc l x _ (by omega)]
  exact ⟨⟨j, a, b, (e j a b).symm⟩, fun j a b => by rw [e j a b]; exact c j a b⟩
theorem isHigh_snoc {p k : Nat} {s : Int × Int} (hk : k ≤ l.length) (h : IsHigh d l p k s) : IsHigh d (l ++ [x]) p k s := by
  obtain ⟨⟨j, a, b, rfl⟩, c⟩ := h
  have e : ∀ j, p < j → j < k → slopeI (l ++ [x]) p j d = slopeI l p j d := fun j a b => by unfold slopeI; rw [atS_snoc l x _ (by omega), atS_snoc l x _ (by omega)]
  exact ⟨⟨j, a, b, (e j a b).symm⟩, fun j a b => by rw [e j a b]; exact c j a b⟩
end Go.Proofs.Ytmcojidaimeijaa
