import Derived.Test.YtblbfpokkpkcjaaCom06
/- Plain mathematics of the compression: the reference's state after some samples, a span's bounds of slopes. -/

namespace Go.Proofs.Ytblbfpokkpkcjaa
open Go.RowKit
set_option linter.unusedVariables false
set_option linter.unusedSimpArgs false

def lineI (a b s : Smp) : Int := (a.v - s.v) * (b.t - a.t) + (b.v - a.v) * (s.t - a.t)
/-- One line from sample p to sample k is near enough to all between. -/
def Cov (d : Int) (l : List Smp) (p k : Nat) : Prop := ∀ j, p < j → j < k → lineI (atS l p) (atS l k) (atS l j) ≤ d * ((atS l k).t - (atS l p).t) ∧ -(d * ((atS l k).t - (atS l p).t)) ≤ lineI (atS l p) (atS l k) (atS l j)
def cov (d : Int) (l : List Smp) (p k : Nat) : Bool := (List.range k).all fun j => !decide (p < j) || (decide (lineI (atS l p) (atS l k) (atS l j) ≤ d * ((atS l k).t - (atS l p).t)) && decide (-(d * ((atS l k).t - (atS l p).t)) ≤ lineI (atS l p) (atS l k) (atS l j)))
theorem cov_true {d : Int} {l : List Smp} {p k : Nat} : cov d l p k = true ↔ Cov d l p k := by
  unfold cov Cov
  rw [List.all_eq_true]
  constructor
  · intro h j h1 h2
    have := h j (List.mem_range.2 h2)
    simp [h1] at this
    exact this
  · intro h j hj
    have hj := List.mem_range.1 hj
    by_cases h1 : p < j
    · have := h j h1 hj
      simp [h1]
      exact this
    · simp [h1]
theorem cov_false {d : Int} {l : List Smp} {p k : Nat} : cov d l p k = false ↔ ¬ Cov d l p k := by
  rw [← cov_true]; simp

/-- What has been kept, and the pivot. -/
def keepI (i : Nat) (s : List Int × Nat) : List Int × Nat := (if s.1.getLast? = some (i : Int) then s.1 else s.1 ++ [(i : Int)], i)
/-- Is the held sample archived because of sample i of the same quality? -/
def shut (d m : Int) (l : List Smp) (p i : Nat) : Bool :=
  decide (m < (atS l i).t - (atS l p).t) || (decide ((atS l i).q ≠ 2) && !(cov d l p i))
def compStep (d m : Int) (l : List Smp) (i : Nat) (s : List Int × Nat) : List Int × Nat :=
  if i = 0 then keepI 0 s
  else if (atS l i).q ≠ (atS l s.2).q then keepI i (keepI (i - 1) s)
  else if shut d m l s.2 i = true then keepI (i - 1) s
  else s
def compTo (d m : Int) (l : List Smp) : Nat → List Int × Nat
  | 0 => ([], 0)
  | i + 1 => compStep d m l i (compTo d m l i)
def compressed (d m : Int) (l : List Smp) : List Int :=
  if l.length = 0 then [] else (keepI (l.length - 1) (compTo d m l l.length)).1

theorem compTo_inv (d m : Int) (l : List Smp) (k : Nat) (hk : 0 < k) :
    (compTo d m l k).2 < k ∧ (compTo d m l k).1.getLast? = some ((compTo d m l k).2 : Int) ∧ (∀ x ∈ (compTo d m l k).1, 0 ≤ x ∧ x < (k : Int)) ∧ (compTo d m l k).1.length ≤ 2 * k := by
  induction k with
  | zero => omega
  | succ k ih =>
    rcases Nat.eq_zero_or_pos k with rfl | hk
    · simp [compTo, compStep, keepI]
    · obtain ⟨h1, h2, h3, h4⟩ := ih hk
      have keep : ∀ i (s : List Int × Nat), i < k + 1 → s.2 < k + 1 → s.1.getLast? = some (s.2 : Int) → (∀ x ∈ s.1, 0 ≤ x ∧ x < ((k + 1 : Nat) : Int)) →
          (keepI i s).2 < k + 1 ∧ (keepI i s).1.getLast? = some ((keepI i s).2 : Int) ∧ (∀ x ∈ (keepI i s).1, 0 ≤ x ∧ x < ((k + 1 : Nat) : Int)) ∧ (keepI i s).1.length ≤ s.1.length + 1 := by
        intro i s hi hs hl ha
        unfold keepI
        by_cases h : s.1.getLast? = some (i : Int)
        · rw [if_pos h]; exact ⟨hi, h, ha, by simp⟩
        · rw [if_neg h]
          refine ⟨hi, by simp, fun x hx => ?_, by simp⟩
          rcases List.mem_append.mp hx with hx | hx
          · exact ha x hx
          · simp at hx; omega
      have h3' : ∀ x ∈ (compTo d m l k).1, 0 ≤ x ∧ x < ((k + 1 : Nat) : Int) := fun x hx => by have := h3 x hx; omega
      simp only [compTo]
      unfold compStep
      rw [if_neg (by omega)]
      obtain ⟨a1, a2, a3, a4⟩ := keep (k - 1) (compTo d m l k) (by omega) (by omega) h2 h3'
      split
      · obtain ⟨b1, b2, b3, b4⟩ := keep k _ (by omega) a1 a2 a3
        exact ⟨b1, b2, b3, by omega⟩
      · split
        · exact ⟨a1, a2, a3, by omega⟩
        · exact ⟨by omega, h2, h3', by omega⟩

theorem keepI_same {i : Nat} {s : List Int × Nat} (hl : s.1.getLast? = some (s.2 : Int)) (h : s.2 = i) : keepI i s = s := by
  obtain ⟨a, b⟩ := s
  simp only at hl h
  subst h
  unfold keepI
  rw [if_pos hl]
theorem keepI_other {i : Nat} {s : List Int × Nat} (hl : s.1.getLast? = some (s.2 : Int)) (h : s.2 ≠ i) : keepI i s = (s.1 ++ [(i : Int)], i) := by
  unfold keepI
  rw [if_neg]
  rw [hl]
  intro hh
  have := Option.some.inj hh
  omega

/-- The state looks at the samples before it alone. -/
theorem cov_snoc (d : Int) (l r : List Smp) (p k : Nat) (hk : k < l.length) (hp : p < l.length) : cov d (l ++ r) p k = cov d l p k := by
  have e : ∀ i, i < l.length → atS (l ++ r) i = atS l i := fun i hi => by simp [atS, List.getD_eq_getElem?_getD, List.getElem?_append_left hi]
  have : Cov d (l ++ r) p k ↔ Cov d l p k := by
    unfold Cov
    rw [e p hp, e k hk]
    constructor
    · intro h j h1 h2; have := h j h1 h2; rwa [e j (by omega)] at this
    · intro h j h1 h2; rw [e j (by omega)]; exact h j h1 h2
  by_cases hc : Cov d l p k
  · rw [cov_true.2 hc, cov_true.2 (this.2 hc)]
  · rw [cov_false.2 hc, cov_false.2 (fun h => hc (this.1 h))]
theorem compTo_snoc (d m : Int) (l r : List Smp) (k : Nat) (hk : k ≤ l.length) : compTo d m (l ++ r) k = compTo d m l k := by
  have e : ∀ i, i < l.length → atS (l ++ r) i = atS l i := fun i hi => by simp [atS, List.getD_eq_getElem?_getD, List.getElem?_append_left hi]
  induction k with
  | zero => rfl
  | succ k ih =>
    simp only [compTo]
    rw [ih (by omega)]
    unfold compStep
    rcases Nat.eq_zero_or_pos k with rfl | hk0
    · simp
    · have h1 := (compTo_inv d m l k hk0).1
      have hk1 : ¬ k = 0 := by omega
      simp only [if_neg hk1]
      unfold shut
      rw [cov_snoc d l r _ k (by omega) (by omega), e k (by omega), e _ (by omega)]

/-- A slope below another one. -/
def slt (a b : Int × Int) : Bool := decide (a.1 * b.2 < b.1 * a.2)
/-- The slope from sample p to sample j, moved up. -/
def slopeI (l : List Smp) (p j : Nat) (u : Int) : Int × Int := ((atS l j).v + u - (atS l p).v, (atS l j).t - (atS l p).t)
/-- The greatest, or the least, of the slopes to the samples between p and k. -/
def IsLow (d : Int) (l : List Smp) (p k : Nat) (s : Int × Int) : Prop := (∃ j, p < j ∧ j < k ∧ s = slopeI l p j (-d)) ∧ ∀ j, p < j → j < k → slt s (slopeI l p j (-d)) = false
def IsHigh (d : Int) (l : List Smp) (p k : Nat) (s : Int × Int) : Prop := (∃ j, p < j ∧ j < k ∧ s = slopeI l p j d) ∧ ∀ j, p < j → j < k → slt (slopeI l p j d) s = false

theorem slt_trans {a b c : Int × Int} (ha : 0 < a.2) (hb : 0 < b.2) (hc : 0 < c.2) (h1 : slt a b = false) (h2 : slt b c = false) : slt a c = false := by
  unfold slt at *
  simp only [decide_eq_false_iff_not, Int.not_lt] at *
  have e1 := Int.mul_le_mul_of_nonneg_right h1 (Int.le_of_lt hc)
  have e2 := Int.mul_le_mul_of_nonneg_right h2 (Int.le_of_lt ha)
  have e3 : b.2 * (c.1 * a.2) ≤ b.2 * (a.1 * c.2) := by
    have q1 : b.1 * a.2 * c.2 = b.1 * c.2 * a.2 := by rw [Int.mul_assoc, Int.mul_comm a.2, ← Int.mul_assoc]
    have q2 : c.1 * b.2 * a.2 = b.2 * (c.1 * a.2) := by rw [Int.mul_comm c.1, Int.mul_assoc]
    have q3 : a.1 * b.2 * c.2 = b.2 * (a.1 * c.2) := by rw [Int.mul_comm a.1, Int.mul_assoc]
    rw [q2] at e2
    rw [q3, q1] at e1
    exact Int.le_trans e2 e1
  exact Int.le_of_mul_le_mul_left e3 hb
theorem slt_asymm {a b : Int × Int} (h : slt a b = true) : slt b a = false := by
  unfold slt at *; simp at *; omega
theorem slt_self (a : Int × Int) : slt a a = false := by unfold slt; simp

theorem low_first (d : Int) (l : List Smp) (p : Nat) : IsLow d l p (p + 2) (slopeI l p (p + 1) (-d)) :=
  ⟨⟨p + 1, by omega, by omega, rfl⟩, fun j h1 h2 => by obtain rfl : j = p + 1 := (by omega); exact slt_self _⟩
theorem high_first (d : Int) (l : List Smp) (p : Nat) : IsHigh d l p (p + 2) (slopeI l p (p + 1) d) :=
  ⟨⟨p + 1, by omega, by omega, rfl⟩, fun j h1 h2 => by obtain rfl : j = p + 1 := (by omega); exact slt_self _⟩
theorem slopeI_pos {l : List Smp} {q : Option Int} (hr : Rise q l) {p j : Nat} (h1 : p < j) (h2 : j < l.length) (u : Int) (hlt : ∀ i k, i < k → k < l.length → (atS l i).t < (atS l k).t) : 0 < (slopeI l p j u).2 := by
  have := hlt p j h1 h2; simp only [slopeI]; omega
theorem low_next {d : Int} {l : List Smp} {p k : Nat} {s : Int × Int} (hlt : ∀ i k, i < k → k < l.length → (atS l i).t < (atS l k).t) (hk : k < l.length) (hp : p < k) (h : IsLow d l p k s) :
    IsLow d l p (k + 1) (if slt s (slopeI l p k (-d)) = true then slopeI l p k (-d) else s) := by
  obtain ⟨⟨j0, h1, h2, rfl⟩, hall⟩ := h
  have pos : ∀ j, p < j → j ≤ k → 0 < (slopeI l p j (-d)).2 := fun j a b => by have := hlt p j a (by omega); simp only [slopeI]; omega
  by_cases hc : slt (slopeI l p j0 (-d)) (slopeI l p k (-d)) = true
  · rw [if_pos hc]
    refine ⟨⟨k, hp, by omega, rfl⟩, fun j a b => ?_⟩
    by_cases hj : j = k
    · subst hj; exact slt_self _
    · exact slt_trans (pos k hp (by omega)) (pos j0 h1 (by omega)) (pos j a (by omega)) (slt_asymm hc) (hall j a (by omega))
  · rw [if_neg hc]
    refine ⟨⟨j0, h1, by omega, rfl⟩, fun j a b => ?_⟩
    by_cases hj : j = k
    · subst hj; simpa using hc
    · exact hall j a (by omega)
theorem high_next {d : Int} {l : List Smp} {p k : Nat} {s : Int × Int} (hlt : ∀ i k, i < k → k < l.length → (atS l i).t < (atS l k).t) (hk : k < l.length) (hp : p < k) (h : IsHigh d l p k s) :
    IsHigh d l p (k + 1) (if slt (slopeI l p k d) s = true then slopeI l p k d else s) := by
  obtain ⟨⟨j0, h1, h2, rfl⟩, hall⟩ := h
  have pos : ∀ j, p < j → j ≤ k → 0 < (slopeI l p j d).2 := fun j a b => by have := hlt p j a (by omega); simp only [slopeI]; omega
  by_cases hc : slt (slopeI l p k d) (slopeI l p j0 d) = true
  · rw [if_pos hc]
    refine ⟨⟨k, hp, by omega, rfl⟩, fun j a b => ?_⟩
    by_cases hj : j = k
    · subst hj; exact slt_self _
    · exact slt_trans (pos j a (by omega)) (pos j0 h1 (by omega)) (pos k hp (by omega)) (hall j a (by omega)) (slt_asymm hc)
  · rw [if_neg hc]
    refine ⟨⟨j0, h1, by omega, rfl⟩, fun j a b => ?_⟩
    by_cases hj : j = k
    · subst hj; simpa using hc
    · exact hall j a (by omega)

/-- What a span accepts is what the reference covers. -/
theorem span_cov {d : Int} {l : List Smp} {p k : Nat} {lo hi : Int × Int} (hlt : ∀ i k, i < k → k < l.length → (atS l i).t < (atS l k).t) (hk : k < l.length) (hp : p + 1 < k) (h1 : IsLow d l p k lo) (h2 : IsHigh d l p k hi) :
    Cov d l p k ↔ (slt (slopeI l p k 0) lo = false ∧ slt hi (slopeI l p k 0) = false) := by
  have pos : ∀ u j, p < j → j ≤ k → 0 < (slopeI l p j u).2 := fun u j a b => by have := hlt p j a (by omega); simp only [slopeI]; omega
  have one : ∀ j, (lineI (atS l p) (atS l k) (atS l j) ≤ d * ((atS l k).t - (atS l p).t) ↔ slt (slopeI l p j d) (slopeI l p k 0) = false) ∧ (-(d * ((atS l k).t - (atS l p).t)) ≤ lineI (atS l p) (atS l k) (atS l j) ↔ slt (slopeI l p k 0) (slopeI l p j (-d)) = false) := by
    intro j
    unfold slt lineI slopeI
    simp only [decide_eq_false_iff_not, Int.not_lt]
    generalize (atS l p) = a
    generalize (atS l k) = b
    generalize (atS l j) = s
    have e1 : (s.v + d - a.v) * (b.t - a.t) = d * (b.t - a.t) - (a.v - s.v) * (b.t - a.t) := by rw [← Int.sub_mul]; congr 1; omega
    have e2 : (s.v + -d - a.v) * (b.t - a.t) = -(d * (b.t - a.t)) - (a.v - s.v) * (b.t - a.t) := by rw [← Int.neg_mul, ← Int.sub_mul]; congr 1; omega
    have e3 : (b.v + 0 - a.v) * (s.t - a.t) = (b.v - a.v) * (s.t - a.t) := by congr 1; omega
    rw [e1, e2, e3]
    constructor <;> constructor <;> intro h <;> omega
  obtain ⟨⟨j1, a1, a2, rfl⟩, hl⟩ := h1
  obtain ⟨⟨j2, b1, b2, rfl⟩, hh⟩ := h2
  constructor
  · intro h
    exact ⟨(one j1).2.1 (h j1 a1 a2).2, (one j2).1.1 (h j2 b1 b2).1⟩
  · rintro ⟨c1, c2⟩ j h3 h4
    refine ⟨(one j).1.2 ?_, (one j).2.2 ?_⟩
    · exact slt_trans (pos _ j h3 (by omega)) (pos _ j2 b1 (by omega)) (pos _ k (by omega) (by omega)) (hh j h3 h4) c2
    · exact slt_trans (pos _ k (by omega) (by omega)) (pos _ j1 a1 (by omega)) (pos _ j h3 (by omega)) c1 (hl j h3 h4)
/-- Lines between samples with the value 0 pass all between. -/
theorem cov_zero {d : Int} {l : List Smp} {p k : Nat} (hd : 0 ≤ d) (ht : (atS l p).t ≤ (atS l k).t) (hz : ∀ j, p ≤ j → j ≤ k → (atS l j).v = 0) (hpk : p ≤ k) : Cov d l p k := by
  intro j h1 h2
  unfold lineI
  rw [hz p (by omega) (by omega), hz k (by omega) (by omega), hz j (by omega) (by omega)]
  have := Int.mul_nonneg hd (Int.sub_nonneg.mpr ht)
  constructor <;> simp <;> omega
end Go.Proofs.Ytblbfpokkpkcjaa
