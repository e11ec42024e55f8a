import Derived.Test.YtblbfpokkpkcjaaCom39
/- What the reference asks of kept samples is what Fits tells: mathematics. -/

namespace Go.Proofs.Ytblbfpokkpkcjaa
set_option linter.unusedVariables false
set_option linter.unusedSimpArgs false

section
variable {l : List Smp} {ks : List Int} {d m : Int}
/-- Between two kept samples: each sample is near enough just where the line covers it. -/
theorem near_cov (hK : keptErr l ks = 0) (hd : 0 ≤ d) {i j a b : Nat} (hj : j + 1 < ks.length) (ha : kAt ks j = (a : Int)) (hb : kAt ks (j + 1) = (b : Int)) (h1 : a < i) (h2 : i < b) (hq : sameQ l a b = true) (hq2 : (atS l a).q ≠ 2) :
    refV d l (choOf l ks) i ↔ (lineI (atS l a) (atS l b) (atS l i) ≤ d * ((atS l b).t - (atS l a).t) ∧ -(d * ((atS l b).t - (atS l a).t)) ≤ lineI (atS l a) (atS l b) (atS l i)) := by
  obtain ⟨hS, hI, _, _, hr, _⟩ := kept_good hK
  have hlt := (serErr_fit hS).ok.lt
  have hix := idxErr_ok hI
  have hbn : b < l.length := by have := (hix.at_ (j + 1) hj).2; omega
  have hrm := recon_mid hK hj ha hb h1 h2
  have qi := sameQ_iff.1 hq i (by omega) (by omega)
  have qb := sameQ_iff.1 hq b (by omega) (by omega)
  rw [if_neg (by rintro (h | h); · exact hq2 (by rw [← qb]; exact h)
                 · exact hq2 h)] at hrm
  have hD : 0 < (atS l b).t - (atS l a).t := by have := hlt a b (by omega) hbn; omega
  have hhas : hasI l (choOf l ks) i = true := by
    unfold hasI reconB
    rw [hrm]
    simp [qi, hq2]
  have hoff : offR l (choOf l ks) i = diffF (atS l i).v (lineAt (atS l a) (atS l b) (atS l i).t) := by
    unfold offR
    rw [if_pos hhas]
    unfold offV reconV
    rw [hrm]; rfl
  unfold refV
  rw [hhas, hoff]
  unfold diffF lineAt
  obtain ⟨n1, n2⟩ := frac_near ((atS l a).v * ((atS l b).t - (atS l a).t) + ((atS l b).v - (atS l a).v) * ((atS l i).t - (atS l a).t)) ((atS l b).t - (atS l a).t) (atS l i).v d hD
  have hli : lineI (atS l a) (atS l b) (atS l i) = ((atS l a).v * ((atS l b).t - (atS l a).t) + ((atS l b).v - (atS l a).v) * ((atS l i).t - (atS l a).t)) - (atS l i).v * ((atS l b).t - (atS l a).t) := by
    unfold lineI; rw [Int.sub_mul]; omega
  rw [hli]
  have hdl := dist_le ((atS l i).v * (fracOf ((atS l a).v * ((atS l b).t - (atS l a).t) + ((atS l b).v - (atS l a).v) * ((atS l i).t - (atS l a).t)) ((atS l b).t - (atS l a).t)).2) (fracOf ((atS l a).v * ((atS l b).t - (atS l a).t) + ((atS l b).v - (atS l a).v) * ((atS l i).t - (atS l a).t)) ((atS l b).t - (atS l a).t)).1 (d * (fracOf ((atS l a).v * ((atS l b).t - (atS l a).t) + ((atS l b).v - (atS l a).v) * ((atS l i).t - (atS l a).t)) ((atS l b).t - (atS l a).t)).2)
  rw [n1, n2] at hdl
  have hne : (atS l i).q ≠ 2 := by rw [qi]; exact hq2
  constructor
  · intro h
    have h3 := hdl.1 (by have := (h hne).2; simp only at this; omega)
    omega
  · intro h _
    refine ⟨rfl, ?_⟩
    have h3 := hdl.2 (by omega)
    simp only
    omega
/-- A kept sample is near enough. -/
theorem near_kept (hK : keptErr l ks = 0) (hd : 0 ≤ d) {i j : Nat} (hi : i < l.length) (hj : j < ks.length) (hji : kAt ks j = (i : Int)) : refV d l (choOf l ks) i := by
  have hra := recon_at hK hi hj hji
  intro hne
  rw [if_neg hne] at hra
  have hhas : hasI l (choOf l ks) i = true := by
    unfold hasI reconB
    rw [hra]
    simp [hne]
  refine ⟨hhas, ?_⟩
  have hoff : offR l (choOf l ks) i = (0, 1) := by
    unfold offR
    rw [if_pos hhas]
    unfold offV reconV diffF dist
    rw [hra]; simp
  rw [hoff]
  simp only
  omega

theorem ref_fits (hK : keptErr l ks = 0) (hd : 0 ≤ d ∧ d ≤ 2000000) (hn : 0 < l.length) : RefP d m l ks ↔ fitsB d m l ks = true := by
  obtain ⟨hS, hI, _, _, hr, _⟩ := kept_good hK
  have hok := (serErr_fit hS).ok
  have hlt := hok.lt
  have hix := idxErr_ok hI
  unfold fitsB
  rw [if_neg (by omega)]
  simp only [Bool.and_eq_true, decide_eq_true_eq]
  constructor
  · rintro ⟨⟨hz, hl⟩, hQ, hG, hV⟩
    obtain ⟨j0, hj0, e0⟩ := mem_kAt hz
    obtain ⟨jl, hjl, el⟩ := mem_kAt hl
    have h0 : kAt ks 0 = 0 := by
      rcases Nat.eq_zero_or_pos j0 with rfl | h
      · exact e0
      · have := hix.lt_ 0 j0 h hj0; have := (hix.at_ 0 (by omega)).1; omega
    obtain ⟨q, hq⟩ : ∃ q, ks.length = q + 1 := ⟨ks.length - 1, by omega⟩
    have hlast : kAt ks q = (l.length : Int) - 1 := by
      rcases Nat.lt_or_ge jl q with h | h
      · have := hix.lt_ jl q h (by omega); have := (hix.at_ q (by omega)).2; omega
      · rw [show q = jl by omega]; exact el
    refine ⟨⟨by rw [kAt_head (by omega), h0], by rw [kAt_last hq, hlast]⟩, (pairsB_iff d m).2 fun j hj => ?_⟩
    obtain ⟨a1, a2⟩ := hix.at_ j (by omega)
    obtain ⟨b1, b2⟩ := hix.at_ (j + 1) hj
    have hab := hix.lt_ j (j + 1) (by omega) hj
    obtain ⟨a, ha⟩ : ∃ a : Nat, kAt ks j = (a : Int) := ⟨(kAt ks j).toNat, by omega⟩
    obtain ⟨b, hb⟩ : ∃ b : Nat, kAt ks (j + 1) = (b : Int) := ⟨(kAt ks (j + 1)).toNat, by omega⟩
    rw [ha, hb, Int.toNat_natCast, Int.toNat_natCast]
    have hnone : ∀ i : Nat, a < i → i < b → (i : Int) ∉ ks := fun i h1 h2 hm => by
      obtain ⟨p, hp, ep⟩ := mem_kAt hm
      have := kAt_mono hix hp (by omega) (show kAt ks j < kAt ks p by omega)
      have := kAt_mono hix hj hp (show kAt ks p < kAt ks (j + 1) by omega)
      omega
    unfold nextB
    by_cases hb1 : b = a + 1
    · simp [hb1]
    · have hsq : sameQ l a b = true := sameQ_iff.2 fun i h1 h2 => by
        have : ∀ k, a + k ≤ b → (atS l (a + k)).q = (atS l a).q := fun k => by
          induction k with
          | zero => intro _; rfl
          | succ k ih =>
            intro hk
            have h3 := ih (by omega)
            by_cases h4 : (atS l (a + (k + 1))).q = (atS l (a + (k + 1) - 1)).q
            · rw [h4, show a + (k + 1) - 1 = a + k by omega]; exact h3
            · obtain ⟨h5, h6⟩ := hQ (a + (k + 1)) (by omega) (by omega) h4
              exfalso
              rcases Nat.eq_zero_or_pos k with rfl | hk0
              · exact hnone (a + (0 + 1)) (by omega) (by omega) h6
              · refine hnone (a + k) (by omega) (by omega) ?_
                rw [show ((a + k : Nat) : Int) = ((a + (k + 1) : Nat) : Int) - 1 by omega]; exact h5
        have := this (i - a) (by omega)
        rwa [show a + (i - a) = i by omega] at this
      have hgap := hG (j + 1) (by omega) hj (by rw [Nat.add_sub_cancel, ha, hb]; omega)
      rw [Nat.add_sub_cancel, ha, hb, Int.toNat_natCast, Int.toNat_natCast] at hgap
      have hsh : shut d m l a b = false := by
        unfold shut
        rw [Bool.or_eq_false_iff]
        refine ⟨by simp; omega, ?_⟩
        by_cases hq2 : (atS l a).q = 2
        · rw [sameQ_iff.1 hsq b (by omega) (Nat.le_refl _)]; simp [hq2]
        · have : cov d l a b = true := cov_true.2 fun i h1 h2 => (near_cov hK hd.1 hj ha hb h1 h2 hsq hq2).1 (hV i (by omega))
          simp [this]
      rw [hsq, hsh]
      simp; omega
  · rintro ⟨⟨hh, hl⟩, hP⟩
    have hkn : 0 < ks.length := by
      cases ks with
      | nil => simp at hh
      | cons _ _ => simp
    obtain ⟨q, hq⟩ : ∃ q, ks.length = q + 1 := ⟨ks.length - 1, by omega⟩
    have h0 : kAt ks 0 = 0 := by rw [kAt_head hkn] at hh; simpa using hh
    have hlast : kAt ks q = (l.length : Int) - 1 := by rw [kAt_last hq] at hl; simpa using hl
    rw [pairsB_iff] at hP
    have hpair : ∀ j a b : Nat, j + 1 < ks.length → kAt ks j = (a : Int) → kAt ks (j + 1) = (b : Int) → a + 1 < b → sameQ l a b = true ∧ (atS l b).t - (atS l a).t ≤ m ∧ ((atS l a).q ≠ 2 → cov d l a b = true) := fun j a b hj ha hb hab => by
      have h := hP j hj
      rw [ha, hb, Int.toNat_natCast, Int.toNat_natCast] at h
      unfold nextB at h
      simp only [Bool.and_eq_true, Bool.or_eq_true, decide_eq_true_eq] at h
      obtain ⟨h1, h2⟩ := h.2.resolve_left (by omega)
      refine ⟨h1, ?_⟩
      have h3 : shut d m l a b = false := by simpa using h2
      unfold shut at h3
      rw [Bool.or_eq_false_iff] at h3
      refine ⟨by have := h3.1; simp at this; omega, fun hq2 => ?_⟩
      have h4 := h3.2
      rw [sameQ_iff.1 h1 b (by omega) (Nat.le_refl _)] at h4
      simpa [hq2] using h4
    have hloc := fun i (hi : i < l.length) => locate hix h0 q (by omega) i (by omega)
    refine ⟨⟨by rw [← h0]; exact kAt_mem hkn, by rw [← hlast]; exact kAt_mem (by omega)⟩, fun i h1 h2 hne => ?_, fun j h1 h2 hgt => ?_, fun i hi => ?_⟩
    · have inner : ∀ (j a b : Nat), j + 1 < ks.length → kAt ks j = (a : Int) → kAt ks (j + 1) = (b : Int) → a ≤ i - 1 → i ≤ b → a + 1 < b → False := fun j a b hj ha hb h3 h4 h5 => by
        have hs := sameQ_iff.1 (hpair j a b hj ha hb h5).1
        exact hne ((hs i (by omega) h4).trans (hs (i - 1) h3 (by omega)).symm)
      have hb' : ∀ j, j + 1 < ks.length → kAt ks j < kAt ks (j + 1) ∧ 0 ≤ kAt ks j ∧ kAt ks (j + 1) < (l.length : Int) := fun j hj => ⟨hix.lt_ j (j + 1) (by omega) hj, (hix.at_ j (by omega)).1, (hix.at_ (j + 1) hj).2⟩
      have hi1 : (i : Int) ∈ ks := by
        rcases hloc i h2 with ⟨j, hj, e⟩ | ⟨j, hj, e1, e2⟩
        · rw [← e]; exact kAt_mem hj
        · obtain ⟨g1, g2, g3⟩ := hb' j hj
          exact (inner j (kAt ks j).toNat (kAt ks (j + 1)).toNat hj (by omega) (by omega) (by omega) (by omega) (by omega)).elim
      refine ⟨?_, hi1⟩
      rcases hloc (i - 1) (by omega) with ⟨j, hj, e⟩ | ⟨j, hj, e1, e2⟩
      · rw [show (i : Int) - 1 = kAt ks j by omega]; exact kAt_mem hj
      · obtain ⟨g1, g2, g3⟩ := hb' j hj
        exact (inner j (kAt ks j).toNat (kAt ks (j + 1)).toNat hj (by omega) (by omega) (by omega) (by omega) (by omega)).elim
    · have hj : j - 1 + 1 < ks.length := by omega
      obtain ⟨a1, a2⟩ := hix.at_ (j - 1) (by omega)
      obtain ⟨b1, b2⟩ := hix.at_ j h2
      have h := (hpair (j - 1) (kAt ks (j - 1)).toNat (kAt ks j).toNat hj (by omega) (by rw [show j - 1 + 1 = j by omega]; omega) (by omega)).2.1
      exact h
    · rcases hloc i hi with ⟨j, hj, e⟩ | ⟨j, hj, e1, e2⟩
      · exact near_kept hK hd.1 hi hj e
      · obtain ⟨a1, a2⟩ := hix.at_ j (by omega)
        obtain ⟨b1, b2⟩ := hix.at_ (j + 1) hj
        obtain ⟨a, ha⟩ : ∃ a : Nat, kAt ks j = (a : Int) := ⟨(kAt ks j).toNat, by omega⟩
        obtain ⟨b, hb⟩ : ∃ b : Nat, kAt ks (j + 1) = (b : Int) := ⟨(kAt ks (j + 1)).toNat, by omega⟩
        obtain ⟨hs, _, hc⟩ := hpair j a b hj ha hb (by omega)
        by_cases hq2 : (atS l a).q = 2
        · intro hne
          exact absurd ((sameQ_iff.1 hs i (by omega) (by omega)).trans hq2) hne
        · exact (near_cov hK hd.1 hj ha hb (by omega) (by omega) hs hq2).2 (cov_true.1 (hc hq2) i (by omega) (by omega))
end
end Go.Proofs.Ytblbfpokkpkcjaa
