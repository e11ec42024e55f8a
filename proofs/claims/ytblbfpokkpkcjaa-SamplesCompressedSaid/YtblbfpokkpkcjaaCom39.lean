import Derived.Test.YtblbfpokkpkcjaaCom28
import Derived.Test.YtblbfpokkpkcjaaCom38
/- When kept samples fit, as the reference says it: mathematics. -/

namespace Go.Proofs.Ytblbfpokkpkcjaa
set_option linter.unusedVariables false
set_option linter.unusedSimpArgs false

def refQ (l : List Smp) (ks : List Int) (i : Nat) : Prop := (atS l i).q ≠ (atS l (i - 1)).q → ((i : Int) - 1 ∈ ks ∧ (i : Int) ∈ ks)
def refG (m : Int) (l : List Smp) (ks : List Int) (j : Nat) : Prop := kAt ks (j - 1) + 1 < kAt ks j → (atS l (kAt ks j).toNat).t - (atS l (kAt ks (j - 1)).toNat).t ≤ m
def refV (d : Int) (l K : List Smp) (i : Nat) : Prop := (atS l i).q ≠ 2 → hasI l K i = true ∧ ¬ (d * (offR l K i).2 < (offR l K i).1)
/-- What the reference asks of kept samples of a list that is not empty. -/
def RefP (d m : Int) (l : List Smp) (ks : List Int) : Prop :=
  ((0 : Int) ∈ ks ∧ (l.length : Int) - 1 ∈ ks) ∧ (∀ i, 1 ≤ i → i < l.length → refQ l ks i) ∧ (∀ j, 1 ≤ j → j < ks.length → refG m l ks j) ∧ (∀ i, i < l.length → refV d l (choOf l ks) i)

theorem dist_le (x y z : Int) : dist x y ≤ z ↔ x - y ≤ z ∧ y - x ≤ z := by unfold dist; split <;> omega
/-- A fraction in lowest terms is as near as the one it comes from. -/
theorem frac_near (N D v d : Int) (hD : 0 < D) : (v * (fracOf N D).2 - (fracOf N D).1 ≤ d * (fracOf N D).2 ↔ v * D - N ≤ d * D) ∧ ((fracOf N D).1 - v * (fracOf N D).2 ≤ d * (fracOf N D).2 ↔ N - v * D ≤ d * D) := by
  have hg : 0 < ((Int.gcd N D : Nat) : Int) := by
    have : 0 < Int.gcd N D := Int.gcd_pos_of_ne_zero_right _ (by omega)
    omega
  have e1 : (fracOf N D).1 * ((Int.gcd N D : Nat) : Int) = N := Int.ediv_mul_cancel (Int.gcd_dvd_left ..)
  have e2 : (fracOf N D).2 * ((Int.gcd N D : Nat) : Int) = D := Int.ediv_mul_cancel (Int.gcd_dvd_right ..)
  generalize (fracOf N D).1 = a at *
  generalize (fracOf N D).2 = b at *
  generalize ((Int.gcd N D : Nat) : Int) = g at *
  subst e1 e2
  constructor
  · rw [show v * (b * g) - a * g = (v * b - a) * g by rw [Int.sub_mul, Int.mul_assoc], show d * (b * g) = d * b * g by rw [Int.mul_assoc]]
    exact (Int.mul_le_mul_right hg).symm
  · rw [show a * g - v * (b * g) = (a - v * b) * g by rw [Int.sub_mul, Int.mul_assoc], show d * (b * g) = d * b * g by rw [Int.mul_assoc]]
    exact (Int.mul_le_mul_right hg).symm

theorem cho_at (l : List Smp) (ks : List Int) (j : Nat) (hj : j < ks.length) : atS (choOf l ks) j = atS l (kAt ks j).toNat := by
  have h : j < (choOf l ks).length := by rw [choOf_length]; exact hj
  rw [← atS_eq _ _ h]
  simp [choOf, kAt_eq ks j hj]

section
variable {l : List Smp} {ks : List Int}
theorem recon_at (hK : keptErr l ks = 0) {i j : Nat} (hi : i < l.length) (hj : j < ks.length) (hji : kAt ks j = (i : Int)) :
    reconOf (choOf l ks) (atS l i).t = if (atS l i).q = 2 then none else some ((atS l i).v, 1) := by
  obtain ⟨hS, hI, _, _, hr, _⟩ := kept_good hK
  have hlt := (serErr_fit hS).ok.lt
  have hix := idxErr_ok hI
  have hkj : atS (choOf l ks) j = atS l i := by rw [cho_at l ks j hj, hji, Int.toNat_natCast]
  have hlen := choOf_length l ks
  have hp1 := (posF_iff (choOf l ks) (atS l i).t none hr j (by omega)).1 (by rw [hkj]; exact Int.le_refl _)
  have hp : posF (choOf l ks) (atS l i).t = j := by
    rcases Nat.lt_or_ge (posF (choOf l ks) (atS l i).t) j with h | h
    · have h2 := (posF_iff (choOf l ks) (atS l i).t none hr (j - 1) (by omega)).2 (by omega)
      rw [cho_at l ks (j - 1) (by omega)] at h2
      have h3 := hix.lt_ (j - 1) j (by omega) hj
      have h4 := hix.at_ (j - 1) (by omega)
      have h5 := hlt (kAt ks (j - 1)).toNat i (by omega) hi
      omega
    · omega
  unfold reconOf
  rw [hp, hkj]
  by_cases hq : (atS l i).q = 2
  · rw [if_pos (.inr hq), if_pos hq]
  · rw [if_neg (by rintro (h | h); · omega
                   · exact hq h), if_pos rfl, if_neg hq]
theorem recon_mid (hK : keptErr l ks = 0) {i j a b : Nat} (hj : j + 1 < ks.length) (ha : kAt ks j = (a : Int)) (hb : kAt ks (j + 1) = (b : Int)) (h1 : a < i) (h2 : i < b) :
    reconOf (choOf l ks) (atS l i).t = if (atS l b).q = 2 ∨ (atS l a).q = 2 then none else some (lineAt (atS l a) (atS l b) (atS l i).t) := by
  obtain ⟨hS, hI, _, _, hr, _⟩ := kept_good hK
  have hlt := (serErr_fit hS).ok.lt
  have hix := idxErr_ok hI
  have hbn : b < l.length := by have := (hix.at_ (j + 1) hj).2; omega
  have hka : atS (choOf l ks) j = atS l a := by rw [cho_at l ks j (by omega), ha, Int.toNat_natCast]
  have hkb : atS (choOf l ks) (j + 1) = atS l b := by rw [cho_at l ks (j + 1) hj, hb, Int.toNat_natCast]
  have hlen := choOf_length l ks
  have t1 := hlt a i h1 (by omega)
  have t2 := hlt i b h2 hbn
  have hp1 := (posF_iff (choOf l ks) (atS l i).t none hr (j + 1) (by omega)).1 (by rw [hkb]; omega)
  have hp2 : ¬ posF (choOf l ks) (atS l i).t ≤ j := fun h => by
    have := (posF_iff (choOf l ks) (atS l i).t none hr j (by omega)).2 h
    rw [hka] at this; omega
  have hp : posF (choOf l ks) (atS l i).t = j + 1 := by omega
  unfold reconOf
  rw [hp, Nat.add_sub_cancel, hka, hkb]
  by_cases hq : (atS l b).q = 2
  · rw [if_pos (.inr hq), if_pos (.inl hq)]
  · rw [if_neg (by rintro (h | h); · omega
                   · exact hq h), if_neg (by omega)]
    by_cases hq2 : (atS l a).q = 2
    · rw [if_pos (.inr hq2), if_pos (.inr hq2)]
    · rw [if_neg (by rintro (h | h); · omega
                     · exact hq2 h), if_neg (by rintro (h | h); · exact hq h
                                                · exact hq2 h)]
/-- Each index is kept, or lies between two that are kept one after the other. -/
theorem locate (hix : IdxOk l.length ks) (h0 : kAt ks 0 = 0) (q : Nat) (hq : q < ks.length) (i : Nat) (hi : (i : Int) ≤ kAt ks q) :
    (∃ j, j < ks.length ∧ kAt ks j = (i : Int)) ∨ (∃ j, j + 1 < ks.length ∧ kAt ks j < (i : Int) ∧ (i : Int) < kAt ks (j + 1)) := by
  induction q with
  | zero => exact .inl ⟨0, hq, by omega⟩
  | succ q ih =>
    by_cases h1 : kAt ks (q + 1) = (i : Int)
    · exact .inl ⟨q + 1, hq, h1⟩
    · by_cases h2 : (i : Int) ≤ kAt ks q
      · exact ih (by omega) h2
      · exact .inr ⟨q, hq, by omega, by omega⟩
theorem mem_kAt {x : Int} (h : x ∈ ks) : ∃ j, j < ks.length ∧ kAt ks j = x := by
  obtain ⟨j, hj, rfl⟩ := List.getElem_of_mem h
  exact ⟨j, hj, (kAt_eq ks j hj).symm⟩
theorem kAt_mem {j : Nat} (h : j < ks.length) : kAt ks j ∈ ks := by rw [← kAt_eq ks j h]; exact List.getElem_mem h
theorem kAt_mono (hix : IdxOk l.length ks) {i j : Nat} (hj : j < ks.length) (hi : i < ks.length) (h : kAt ks i < kAt ks j) : i < j := by
  rcases Nat.lt_trichotomy i j with h1 | h1 | h1
  · exact h1
  · subst h1; omega
  · have := hix.lt_ j i h1 hi; omega
theorem pairsB_iff (d m : Int) : pairsB d m l ks = true ↔ ∀ j, j + 1 < ks.length → nextB d m l (kAt ks j).toNat (kAt ks (j + 1)).toNat = true := by
  have h : ∀ n j, n + j = ks.length → (pairsB d m l (ks.drop j) = true ↔ ∀ i, j ≤ i → i + 1 < ks.length → nextB d m l (kAt ks i).toNat (kAt ks (i + 1)).toNat = true) := by
    intro n
    induction n with
    | zero => intro j hj; rw [pairsB_end d m l ks j (by omega)]; exact ⟨fun _ i h1 h2 => by omega, fun _ => rfl⟩
    | succ n ih =>
      intro j hj
      by_cases h1 : j + 1 < ks.length
      · rw [pairsB_at d m l ks j h1, Bool.and_eq_true, ih (j + 1) (by omega)]
        exact ⟨fun h i h2 h3 => by by_cases h4 : i = j; subst h4; exact h.1; exact h.2 i (by omega) h3, fun h => ⟨h j (Nat.le_refl _) h1, fun i h2 h3 => h i (by omega) h3⟩⟩
      · rw [pairsB_end d m l ks j (by omega)]
        exact ⟨fun _ i h2 h3 => by omega, fun _ => rfl⟩
  have := h ks.length 0 (by omega)
  rw [List.drop_zero] at this
  rw [this]
  exact ⟨fun h j hj => h j (Nat.zero_le _) hj, fun h j _ hj => h j hj⟩
end
end Go.Proofs.Ytblbfpokkpkcjaa
