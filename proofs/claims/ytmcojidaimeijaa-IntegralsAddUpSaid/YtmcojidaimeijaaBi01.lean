import Derived.Test.YtmcojidaimeijaaBase
import Derived.Test.YtmcojidaimeijaaAgm
import Derived.Test.YtmcojidaimeijaaApp
import Derived.Shelf.SlSortCmp.SmallK
import Derived.Shelf.SlSortCmp.Xorshift
import Derived.Test.YtmcojidaimeijaaChk
import Derived.Test.YtmcojidaimeijaaStrl
import Derived.OwnWalkIn
import Derived.Test.YtmcojidaimeijaaMstyLay
/- The median over time of a right series: mathematics. -/
/- Mathematics of the median over time: which value a sorted list of values and times stops at. -/

namespace Go.Proofs.Ytmcojidaimeijaa
set_option linter.unusedVariables false
set_option linter.unusedSimpArgs false

/-- The value at which the times so far are at least half. -/
def medF (tot : Int) : Int → List (Int × Int) → Option Int
  | _, [] => none
  | so, x :: r => if tot ≤ 2 * (so + x.2) then some x.1 else medF tot (so + x.2) r
/-- How long the value is at most v. -/
def wtF (v : Int) : List (Int × Int) → Int
  | [] => 0
  | x :: r => (if x.1 ≤ v then x.2 else 0) + wtF v r
def sumF : List (Int × Int) → Int
  | [] => 0
  | x :: r => x.2 + sumF r
theorem wtF_perm (v : Int) {a b : List (Int × Int)} (h : a.Perm b) : wtF v a = wtF v b := by
  induction h with
  | nil => rfl
  | cons x _ ih => simp only [wtF, ih]
  | swap x y l => simp only [wtF]; omega
  | trans _ _ h1 h2 => rw [h1, h2]
theorem sumF_perm {a b : List (Int × Int)} (h : a.Perm b) : sumF a = sumF b := by
  induction h with
  | nil => rfl
  | cons x _ ih => simp only [sumF, ih]
  | swap x y l => simp only [sumF]; omega
  | trans _ _ h1 h2 => rw [h1, h2]
theorem wtF_append (v : Int) (a b : List (Int × Int)) : wtF v (a ++ b) = wtF v a + wtF v b := by
  induction a with
  | nil => simp [wtF]
  | cons x r ih => simp only [List.cons_append, wtF, ih]; omega
theorem sumF_append (a b : List (Int × Int)) : sumF (a ++ b) = sumF a + sumF b := by
  induction a with
  | nil => simp [sumF]
  | cons x r ih => simp only [List.cons_append, sumF, ih]; omega
theorem wtF_all (v : Int) (a : List (Int × Int)) (h : ∀ x ∈ a, x.1 ≤ v) : wtF v a = sumF a := by
  induction a with
  | nil => rfl
  | cons x r ih => simp only [wtF, sumF, ih (fun y hy => h y (by simp [hy])), h x (by simp), if_true]
theorem wtF_none (v : Int) (a : List (Int × Int)) (h : ∀ x ∈ a, v < x.1) : wtF v a = 0 := by
  induction a with
  | nil => rfl
  | cons x r ih =>
    have := h x (by simp)
    simp only [wtF, ih (fun y hy => h y (by simp [hy]))]
    rw [if_neg (by omega)]; rfl
theorem wtF_pos (v : Int) (a : List (Int × Int)) (h : ∀ x ∈ a, 0 < x.2) : 0 ≤ wtF v a ∧ wtF v a ≤ sumF a ∧ 0 ≤ sumF a := by
  induction a with
  | nil => simp [wtF, sumF]
  | cons x r ih =>
    have h1 := h x (by simp)
    have h2 := ih (fun y hy => h y (by simp [hy]))
    simp only [wtF, sumF]
    split <;> omega
theorem medF_some (tot : Int) (r p : List (Int × Int)) (v : Int) (hs : (p ++ r).Pairwise (fun x y => x.1 ≤ y.1)) (hp : ∀ x ∈ p ++ r, 0 < x.2) (h : p = [] ∨ 2 * sumF p < tot) (e : medF tot (sumF p) r = some v) :
    (∃ x ∈ p ++ r, x.1 = v) ∧ tot ≤ 2 * wtF v (p ++ r) ∧ ∀ u ∈ p ++ r, u.1 < v → 2 * wtF u.1 (p ++ r) < tot := by
  induction r generalizing p with
  | nil => simp [medF] at e
  | cons x r ih =>
    by_cases hx : tot ≤ 2 * (sumF p + x.2)
    · simp only [medF, hx, if_true, Option.some.injEq] at e
      subst e
      rw [List.pairwise_append, List.pairwise_cons] at hs
      obtain ⟨_, ⟨hxr, _⟩, hpx⟩ := hs
      have hle : ∀ y ∈ p, y.1 ≤ x.1 := fun y hy => hpx y hy x (by simp)
      have hr0 := wtF_pos x.1 r (fun y hy => hp y (by simp [hy]))
      refine ⟨⟨x, by simp, rfl⟩, ?_, ?_⟩
      · rw [wtF_append, wtF_all x.1 p hle]
        simp only [wtF, Int.le_refl, if_true]
        omega
      · intro u hu hlt
        have hup : u ∈ p := by
          rcases List.mem_append.1 hu with h1 | h1
          · exact h1
          · rcases List.mem_cons.1 h1 with rfl | h1
            · omega
            · have := hxr u h1; omega
        have hne : 2 * sumF p < tot := h.resolve_left (fun e => by rw [e] at hup; simp at hup)
        have h1 := wtF_pos u.1 p (fun y hy => hp y (by simp [hy]))
        have h2 := wtF_none u.1 (x :: r) (fun y hy => by
          rcases List.mem_cons.1 hy with rfl | h3
          · exact hlt
          · have := hxr y h3; omega)
        rw [wtF_append, h2]
        omega
    · have e1 : p ++ x :: r = (p ++ [x]) ++ r := by simp
      have e2 : sumF (p ++ [x]) = sumF p + x.2 := by rw [sumF_append]; simp [sumF]
      simp only [medF, hx, if_false] at e
      rw [← e2] at e
      rw [e1] at hs hp ⊢
      exact ih (p ++ [x]) hs hp (.inr (by rw [e2]; omega)) e
theorem medF_none (tot : Int) (r : List (Int × Int)) (so : Int) (hr : r ≠ []) (hp : ∀ x ∈ r, 0 < x.2) (h : 0 ≤ so) (ht : tot ≤ so + sumF r) : medF tot so r ≠ none := by
  induction r generalizing so with
  | nil => exact absurd rfl hr
  | cons x r ih =>
    have hx := hp x (by simp)
    by_cases hc : tot ≤ 2 * (so + x.2)
    · simp [medF, hc]
    · simp only [medF, hc, if_false]
      simp only [sumF] at ht
      refine ih (so + x.2) ?_ (fun y hy => hp y (by simp [hy])) (by omega) (by omega)
      rintro rfl
      simp only [sumF] at ht
      omega
/-- Two sorted lists of the same pairs stop at the same value. -/
theorem medF_perm {a b : List (Int × Int)} (h : a.Perm b) (ha : a.Pairwise (fun x y => x.1 ≤ y.1)) (hb : b.Pairwise (fun x y => x.1 ≤ y.1)) (hp : ∀ x ∈ a, 0 < x.2) (tot : Int) (ht : tot = sumF a) : medF tot 0 a = medF tot 0 b := by
  have hpb : ∀ x ∈ b, 0 < x.2 := fun x hx => hp x (h.mem_iff.2 hx)
  by_cases hn : a = []
  · subst hn
    rw [h.symm.eq_nil]
  · have hnb : b ≠ [] := fun e => hn (by subst e; exact h.eq_nil)
    obtain ⟨u, hu⟩ := Option.ne_none_iff_exists'.1 (medF_none tot a 0 hn hp (Int.le_refl _) (by omega))
    obtain ⟨v, hv⟩ := Option.ne_none_iff_exists'.1 (medF_none tot b 0 hnb hpb (Int.le_refl _) (by rw [← sumF_perm h]; omega))
    obtain ⟨⟨x, hx, rfl⟩, h1, h2⟩ := medF_some tot a [] u ha hp (.inl rfl) hu
    obtain ⟨⟨y, hy, rfl⟩, h3, h4⟩ := medF_some tot b [] v hb hpb (.inl rfl) hv
    simp only [List.nil_append] at *
    rw [hu, hv]
    have e1 := wtF_perm x.1 h
    have e2 := wtF_perm y.1 h
    have h5 := h4 x (h.mem_iff.1 hx)
    have h6 := h2 y (h.mem_iff.2 hy)
    congr 1
    omega
end Go.Proofs.Ytmcojidaimeijaa
namespace Go.Proofs.Ytmcojidaimeijaa
set_option linter.unusedVariables false
set_option linter.unusedSimpArgs false

/-- Values and how long they stay. -/
def medV (r : List Str) : List (Int × Int) := r.map fun x => (x.s.v, x.b - x.a)
/-- The median over a right window of a right series. -/
def medR (l : List Smp) (f t : Int) : Option Int := medF (aggV l f t).g 0 ((medV (valL l f t)).mergeSort fun x y => decide (x.1 ≤ y.1))
theorem medV_sum (r : List Str) : sumF (medV r) = (agS r).g := by
  refine snocI (P := fun r => sumF (medV r) = (agS r).g) rfl (fun r x ih => ?_) r
  rw [agS_snoc, show medV (r ++ [x]) = medV r ++ [(x.s.v, x.b - x.a)] by simp [medV], sumF_append, ih]
  simp [sumF, agT]
theorem medV_pos {l : List Smp} {f t : Int} (hS : serErr l = 0) : ∀ x ∈ medV (valL l f t), 0 < x.2 := fun x hx => by
  obtain ⟨y, hy, rfl⟩ := List.mem_map.1 hx
  have := valL_ok hS y hy
  unfold StrOk at this
  show 0 < y.b - y.a
  omega
theorem medR_is {l : List Smp} {f t : Int} (hS : serErr l = 0) {r : List (Int × Int)} (hp : r.Perm (medV (valL l f t))) (hs : r.Pairwise (fun x y => x.1 ≤ y.1)) : medF (aggV l f t).g 0 r = medR l f t := by
  have hm := List.mergeSort_perm (medV (valL l f t)) (fun x y => decide (x.1 ≤ y.1))
  have hms := List.pairwise_mergeSort (le := fun x y : Int × Int => decide (x.1 ≤ y.1)) (fun x y z h1 h2 => by simp at *; omega) (fun x y => by simp; omega) (medV (valL l f t))
  refine medF_perm (hp.trans hm.symm) hs (hms.imp (fun {x y} h => by simpa using h)) (fun x hx => medV_pos hS x (hp.mem_iff.1 hx)) _ ?_
  rw [sumF_perm hp, medV_sum]
  rfl
theorem medV_perm {a b : List Str} (h : a.Perm b) : (medV a).Perm (medV b) := h.map _
theorem medV_sorted {a : List Str} (h : a.Pairwise (fun x y => x.s.v ≤ y.s.v)) : (medV a).Pairwise (fun x y => x.1 ≤ y.1) := by
  unfold medV
  rw [List.pairwise_map]
  exact h
theorem sumF_bound (B : Int) (r : List (Int × Int)) (h : ∀ x ∈ r, 0 < x.2 ∧ x.2 ≤ B) : 0 ≤ sumF r ∧ sumF r ≤ r.length * B := by
  induction r with
  | nil => simp [sumF]
  | cons x r ih =>
    have h1 := h x (by simp)
    have h2 := ih (fun y hy => h y (by simp [hy]))
    simp only [sumF, List.length_cons]
    rw [Int.natCast_add, Int.add_mul]
    omega
theorem sumF_take_le (r : List (Int × Int)) (k : Nat) (h : ∀ x ∈ r, 0 < x.2) : 0 ≤ sumF (r.take k) ∧ sumF (r.take k) ≤ sumF r := by
  have e := sumF_append (r.take k) (r.drop k)
  rw [List.take_append_drop] at e
  have h1 := wtF_pos 0 (r.take k) (fun x hx => h x (List.mem_of_mem_take hx))
  have h2 := wtF_pos 0 (r.drop k) (fun x hx => h x (List.mem_of_mem_drop hx))
  omega
theorem sumF_take (r : List (Int × Int)) (k : Nat) (h : k < r.length) : sumF (r.take (k + 1)) = sumF (r.take k) + r[k].2 := by
  rw [List.take_succ_eq_append_getElem h, sumF_append]; simp [sumF]
theorem medF_drop (tot so : Int) (r : List (Int × Int)) (k : Nat) (h : k < r.length) : medF tot so (r.drop k) = if tot ≤ 2 * (so + r[k].2) then some r[k].1 else medF tot (so + r[k].2) (r.drop (k + 1)) := by
  rw [List.drop_eq_getElem_cons h]; rfl
end Go.Proofs.Ytmcojidaimeijaa

/- The mathematics of IntegralsAddUp: what lies in two adjacent windows adds up; the average and the median lie between the extremes. -/

namespace Go.Proofs.Ytmcojidaimeijaa
open Go.RowKit
set_option linter.unusedVariables false
set_option linter.unusedSimpArgs false

theorem agS_append (a b : List Str) : (agS (a ++ b)).g = (agS a).g + (agS b).g ∧ (agS (a ++ b)).s = (agS a).s + (agS b).s := by
  refine snocI (P := fun b => (agS (a ++ b)).g = (agS a).g + (agS b).g ∧ (agS (a ++ b)).s = (agS a).s + (agS b).s) (by simp [agS]) (fun r x ih => ?_) b
  rw [← List.append_assoc, agS_snoc, agS_snoc]
  simp only [agT]
  omega
/-- How long sample i counts in a window. -/
def cgI (l : List Smp) (f t : Int) (i : Nat) : Int := if (atS l i).q ≤ 1 ∧ strA l f i < strB l t i then strB l t i - strA l f i else 0
theorem agg_step (l : List Smp) (f t : Int) (k : Nat) :
    (agS ((strTo l f t (k + 1)).filter fun x => decide (x.s.q ≤ 1))).g = (agS ((strTo l f t k).filter fun x => decide (x.s.q ≤ 1))).g + cgI l f t k ∧
    (agS ((strTo l f t (k + 1)).filter fun x => decide (x.s.q ≤ 1))).s = (agS ((strTo l f t k).filter fun x => decide (x.s.q ≤ 1))).s + (atS l k).v * cgI l f t k := by
  rw [strTo, List.filter_append]
  have h := agS_append ((strTo l f t k).filter fun x => decide (x.s.q ≤ 1)) ((strOne l f t k).filter fun x => decide (x.s.q ≤ 1))
  rw [h.1, h.2]
  unfold strOne cgI
  by_cases hab : strA l f k < strB l t k
  · rw [if_pos hab]
    by_cases hq : (atS l k).q ≤ 1
    · rw [if_pos ⟨hq, hab⟩]
      simp [hq, agS, agT]
    · rw [if_neg (fun h => hq h.1)]
      simp [hq, agS]
  · rw [if_neg hab, if_neg (fun h => hab h.2)]
    simp [agS]
theorem cgI_add {l : List Smp} {f m t : Int} (hr : Rise none l) (h1 : f ≤ m) (h2 : m ≤ t) (i : Nat) (hi : i < l.length) : cgI l f m i + cgI l m t i = cgI l f t i := by
  have h3 : i + 1 < l.length → (atS l i).t < (atS l (i + 1)).t := fun h => rise_ltA hr i (i + 1) (by omega) h
  unfold cgI strA strB
  generalize (atS l i).t = A at *
  generalize (atS l (i + 1)).t = B at *
  by_cases hq : (atS l i).q ≤ 1
  · by_cases hl : i + 1 < l.length
    · have h4 := h3 hl
      simp only [hq, hl, true_and]
      repeat' split
      all_goals omega
    · simp only [hq, hl, true_and, false_and, if_false]
      repeat' split
      all_goals omega
  · simp only [hq, false_and, if_false]
    omega
theorem agg_add {l : List Smp} {f m t : Int} (hS : serErr l = 0) (h1 : f ≤ m) (h2 : m ≤ t) : (aggV l f m).g + (aggV l m t).g = (aggV l f t).g ∧ (aggV l f m).s + (aggV l m t).s = (aggV l f t).s := by
  have hr := serErr_rise hS
  unfold aggV valL strL
  suffices h : ∀ k, k ≤ l.length → (agS ((strTo l f m k).filter fun x => decide (x.s.q ≤ 1))).g + (agS ((strTo l m t k).filter fun x => decide (x.s.q ≤ 1))).g = (agS ((strTo l f t k).filter fun x => decide (x.s.q ≤ 1))).g ∧
      (agS ((strTo l f m k).filter fun x => decide (x.s.q ≤ 1))).s + (agS ((strTo l m t k).filter fun x => decide (x.s.q ≤ 1))).s = (agS ((strTo l f t k).filter fun x => decide (x.s.q ≤ 1))).s from h _ (Nat.le_refl _)
  intro k
  induction k with
  | zero => intro _; simp [strTo, agS]
  | succ k ih =>
    intro hk
    obtain ⟨i1, i2⟩ := ih (by omega)
    obtain ⟨a1, a2⟩ := agg_step l f m k
    obtain ⟨b1, b2⟩ := agg_step l m t k
    obtain ⟨c1, c2⟩ := agg_step l f t k
    have hc := cgI_add hr h1 h2 k (by omega)
    have hv : (atS l k).v * cgI l f m k + (atS l k).v * cgI l m t k = (atS l k).v * cgI l f t k := by rw [← Int.mul_add, hc]
    rw [a1, a2, b1, b2, c1, c2]
    omega
/-- The extremes of stretches bound their values, and what they add up to. -/
theorem agS_between (r : List Str) : (∀ x ∈ r, x.a < x.b) → (0 ≤ (agS r).g ∧ (r ≠ [] → 0 < (agS r).g)) ∧ (∀ x ∈ r, (agS r).mn ≤ x.s.v ∧ x.s.v ≤ (agS r).mx) ∧ (agS r).mn * (agS r).g ≤ (agS r).s ∧ (agS r).s ≤ (agS r).mx * (agS r).g := by
  refine snocI (P := fun r => (∀ x ∈ r, x.a < x.b) → (0 ≤ (agS r).g ∧ (r ≠ [] → 0 < (agS r).g)) ∧ (∀ x ∈ r, (agS r).mn ≤ x.s.v ∧ x.s.v ≤ (agS r).mx) ∧ (agS r).mn * (agS r).g ≤ (agS r).s ∧ (agS r).s ≤ (agS r).mx * (agS r).g) (fun _ => by simp [agS]) (fun r x ih hr => ?_) r
  obtain ⟨⟨h0, h1⟩, h2, h3, h4⟩ := ih (fun y hy => hr y (by simp [hy]))
  have hx := hr x (by simp)
  have hnil : r = [] → agS r = ⟨0, 0, 0, 0⟩ := fun e => by rw [e]; rfl
  rw [agS_snoc]
  generalize agS r = A at *
  obtain ⟨g, mn, mx, s⟩ := A
  simp only at h0 h1 h2 h3 h4
  have hg0 : g = 0 → r = [] := fun e => by
    by_cases hn : r = []
    · exact hn
    · have := h1 hn; omega
  have hs0 : g = 0 → s = 0 := fun e => by have := hnil (hg0 e); simp only [Ag.mk.injEq] at this; exact this.2.2.2
  obtain ⟨lo, hlo⟩ : ∃ lo, lo = (agT ⟨g, mn, mx, s⟩ x.s.v x.a x.b).mn := ⟨_, rfl⟩
  obtain ⟨hi, hhi⟩ : ∃ hi, hi = (agT ⟨g, mn, mx, s⟩ x.s.v x.a x.b).mx := ⟨_, rfl⟩
  have hl1 : lo ≤ x.s.v ∧ (g ≠ 0 → lo ≤ mn) := by
    rw [hlo]; simp only [agT]
    split <;> split <;> omega
  have hh1 : x.s.v ≤ hi ∧ (g ≠ 0 → mx ≤ hi) := by
    rw [hhi]; simp only [agT]
    split <;> split <;> omega
  rw [← hlo, ← hhi]
  have hg : (agT ⟨g, mn, mx, s⟩ x.s.v x.a x.b).g = g + (x.b - x.a) := rfl
  have hs : (agT ⟨g, mn, mx, s⟩ x.s.v x.a x.b).s = s + x.s.v * (x.b - x.a) := rfl
  rw [hg, hs, Int.mul_add, Int.mul_add]
  have m1 : lo * g ≤ s := by
    by_cases e : g = 0
    · rw [hs0 e, e]; simp
    · exact Int.le_trans (Int.mul_le_mul_of_nonneg_right (hl1.2 e) h0) h3
  have m2 : s ≤ hi * g := by
    by_cases e : g = 0
    · rw [hs0 e, e]; simp
    · exact Int.le_trans h4 (Int.mul_le_mul_of_nonneg_right (hh1.2 e) h0)
  have m3 : lo * (x.b - x.a) ≤ x.s.v * (x.b - x.a) := Int.mul_le_mul_of_nonneg_right hl1.1 (by omega)
  have m4 : x.s.v * (x.b - x.a) ≤ hi * (x.b - x.a) := Int.mul_le_mul_of_nonneg_right hh1.1 (by omega)
  refine ⟨⟨by omega, fun _ => by omega⟩, fun y hy => ?_, by omega, by omega⟩
  rcases List.mem_append.1 hy with hy | hy
  · have hne : g ≠ 0 := fun e => by rw [hg0 e] at hy; cases hy
    have := h2 y hy
    have := hl1.2 hne
    have := hh1.2 hne
    omega
  · rw [List.mem_singleton.1 hy]
    exact ⟨hl1.1, hh1.1⟩
theorem medF_mem (tot : Int) : ∀ (r : List (Int × Int)) (so y : Int), medF tot so r = some y → ∃ x ∈ r, x.1 = y := by
  intro r
  induction r with
  | nil => intro so y h; cases h
  | cons x r ih =>
    intro so y h
    simp only [medF] at h
    split at h
    · exact ⟨x, by simp, by simpa using h⟩
    · obtain ⟨z, hz, e⟩ := ih _ _ h
      exact ⟨z, by simp [hz], e⟩
/-- The median is there when there is time with a value, and lies between the extremes. -/
theorem med_between {l : List Smp} {f t : Int} (hS : serErr l = 0) : ((medR l f t).isSome = decide (0 < (aggV l f t).g)) ∧ ∀ y, medR l f t = some y → (aggV l f t).mn ≤ y ∧ y ≤ (aggV l f t).mx := by
  have hok : ∀ x ∈ valL l f t, x.a < x.b := fun x hx => (valL_ok hS x hx).2.1
  have hb := agS_between (valL l f t) hok
  have hpos := medV_pos (l := l) (f := f) (t := t) hS
  have hsum := medV_sum (valL l f t)
  unfold medR aggV
  obtain ⟨r, hr⟩ : ∃ r, r = (medV (valL l f t)).mergeSort fun x y => decide (x.1 ≤ y.1) := ⟨_, rfl⟩
  rw [← hr]
  have hperm : r.Perm (medV (valL l f t)) := by rw [hr]; exact List.mergeSort_perm _ _
  have hval : ∀ x ∈ r, ∃ y ∈ valL l f t, x.1 = y.s.v := fun x hx => by
    have h1 := hperm.mem_iff.1 hx
    unfold medV at h1
    obtain ⟨y, hy, e⟩ := List.mem_map.1 h1
    exact ⟨y, hy, by rw [← e]⟩
  refine ⟨?_, fun y hy => ?_⟩
  · by_cases hn : valL l f t = []
    · have hr0 : r = [] := by
        have := hperm.length_eq
        rw [hn] at this
        exact List.eq_nil_of_length_eq_zero (by simpa [medV] using this)
      rw [hr0, hn]
      rfl
    · have hg := hb.1.2 hn
      have hrn : r ≠ [] := fun e => by
        have := hperm.length_eq
        rw [e] at this
        exact hn (List.eq_nil_of_length_eq_zero (by simpa [medV] using this.symm))
      have h1 := medF_none (agS (valL l f t)).g r 0 hrn (fun x hx => hpos x (hperm.mem_iff.1 hx)) (Int.le_refl _) (by rw [sumF_perm hperm, hsum]; omega)
      rw [decide_eq_true hg]
      cases hm : medF (agS (valL l f t)).g 0 r with
      | none => exact absurd hm h1
      | some y => rfl
  · obtain ⟨x, hx, e⟩ := medF_mem _ _ _ _ hy
    obtain ⟨z, hz, e2⟩ := hval x hx
    have := hb.2.1 z hz
    rw [← e, e2]
    exact this
/-- The average lies between the extremes. -/
theorem avg_between {l : List Smp} {f t : Int} (hS : serErr l = 0) (hg : 0 < (aggV l f t).g) : 0 < (avgV l f t).2 ∧ (aggV l f t).mn * (avgV l f t).2 ≤ (avgV l f t).1 ∧ (avgV l f t).1 ≤ (aggV l f t).mx * (avgV l f t).2 := by
  have hok : ∀ x ∈ valL l f t, x.a < x.b := fun x hx => (valL_ok hS x hx).2.1
  have hb := agS_between (valL l f t) hok
  have h3 := hb.2.2
  unfold avgV
  rw [if_pos hg]
  unfold aggV at hg ⊢
  obtain ⟨h0, h1, h2⟩ := frac_parts (agS (valL l f t)).s (agS (valL l f t)).g hg
  generalize (agS (valL l f t)).s = s at *
  generalize (agS (valL l f t)).g = g at *
  have e1 : (fracOf s g).1 * ((Int.gcd s g : Nat) : Int) = s := Int.ediv_mul_cancel (Int.gcd_dvd_left ..)
  have e2 : (fracOf s g).2 * ((Int.gcd s g : Nat) : Int) = g := Int.ediv_mul_cancel (Int.gcd_dvd_right ..)
  generalize ((Int.gcd s g : Nat) : Int) = k at *
  generalize (fracOf s g).1 = a at *
  generalize (fracOf s g).2 = b at *
  refine ⟨?_, ?_, ?_⟩
  · rcases Int.lt_or_le 0 b with h | h
    · exact h
    · have := Int.mul_nonpos_of_nonpos_of_nonneg h (Int.le_of_lt h0)
      omega
  · refine Int.le_of_mul_le_mul_right ?_ h0
    rw [Int.mul_assoc, e1, e2]
    exact h3.1
  · refine Int.le_of_mul_le_mul_right ?_ h0
    rw [Int.mul_assoc, e1, e2]
    exact h3.2
end Go.Proofs.Ytmcojidaimeijaa

/- A row of the call's own, of records of k cells, as what the shelf's sorts take and leave. -/

namespace Go.Proofs.Ytmcojidaimeijaa
open Go.RowKit Go.Shelf Go.Sort Go.Lib
set_option linter.unusedVariables false
set_option linter.unusedSimpArgs false

section
variable {α : Type} [Inhabited α] (enc : α → List Value) (k : Nat) (hk : ∀ x, (enc x).length = k)
include hk
omit [Inhabited α] in
theorem flatMap_long (l : List α) : (l.flatMap enc).length = l.length * k := by
  induction l with
  | nil => simp
  | cons x r ih => simp only [List.flatMap_cons, List.length_append, List.length_cons, ih, hk]; rw [Nat.add_mul]; omega
omit [Inhabited α] in
theorem flatMap_at (l : List α) (i : Nat) (h : i < l.length) (j : Nat) (hj : j < k) : (l.flatMap enc)[i * k + j]? = (enc (l[i]))[j]? := by
  induction l generalizing i with
  | nil => simp at h
  | cons x r ih =>
    cases i with
    | zero => simp only [List.flatMap_cons, Nat.zero_mul, Nat.zero_add]; rw [List.getElem?_append_left (by rw [hk]; exact hj)]; rfl
    | succ i =>
      simp only [List.flatMap_cons]
      rw [List.getElem?_append_right (by rw [hk, Nat.add_mul]; omega), hk, show (i + 1) * k + j - k = i * k + j by rw [Nat.add_mul]; omega, ih i (by simpa using h)]
      rfl
theorem flatG (d : Array α) (l : List α) (hd : d.toList = l) (t : Nat) (h : t < d.size * k) : (l.flatMap enc)[t]? = some (flatK enc k d)[t]! := by
  subst hd
  rw [get_flatK enc k d t h]
  have hk0 : 0 < k := Nat.pos_of_ne_zero (fun e => by rw [e] at h; omega)
  have hi : t / k < d.size := Nat.div_lt_of_lt_mul (by rw [Nat.mul_comm]; exact h)
  have e : t / k * k + t % k = t := by rw [Nat.mul_comm]; exact Nat.div_add_mod t k
  have hj : t % k < k := Nat.mod_lt _ hk0
  have := flatMap_at enc k hk d.toList (t / k) (by simpa using hi) (t % k) hj
  rw [e] at this
  rw [this]
  have hg : d.toList[t / k]'(by simpa using hi) = d[t / k]! := by simp [getElem!_pos, hi]
  rw [hg]
  have h3 : t % k < (enc d[t / k]!).length := by rw [hk]; exact hj
  rw [List.getElem?_eq_getElem h3]
  simp [h3]
theorem holds_of_own {w : World} {base g cap : Nat} {e : TypeId} (l : List α) (h : w.ownsRow base e k (.slice (some ⟨g, 0, none⟩) l.length cap) l.length (l.flatMap enc)) : HoldsK enc k w g 0 l.toArray := fun j hj => by
  rw [size_flatK] at hj
  refine ⟨?_, h.frozenAt _⟩
  rw [Nat.zero_add, h.cellAt j (by simpa using hj), flatG enc k hk l.toArray l rfl j hj]
  rfl
theorem own_sortedG {w : World} {base g cap m : Nat} {e : TypeId} {l : List α} {d' : Array α} {os : Array Obj} (h : w.ownsRow base e k (.slice (some ⟨g, 0, none⟩) l.length cap) l.length (l.flatMap enc)) (hs : d'.size = l.length) :
    (sortWorldK enc k w g 0 m d' os).ownsRow base e k (.slice (some ⟨g, 0, none⟩) l.length cap) l.length (d'.toList.flatMap enc) ∧ Below g w (sortWorldK enc k w g 0 m d' os) ∧ w.grownBy (sortWorldK enc k w g 0 m d' os) (some g) := by
  rcases h.2 with ⟨e0, _⟩ | ⟨g', cap', cur, e0, hb, hg, hn, hm, hsz, ht⟩
  · cases e0
  · injection e0 with e1 _ e3
    injection e1 with e1
    injection e1 with e1
    subst e1; subst e3
    have hlt : g < w.heap.size := lt_of_heap hg
    have hle : l.length * k ≤ cap * k := Nat.mul_le_mul_right k hn
    have hcell : (sortWorldK enc k w g 0 m d' os).heap[g]? = some (.cells (putCells id 0 (flatK enc k d') cur) e (0, 0)) := by
      unfold sortWorldK grow
      simp only [Array.getElem?_append]
      rw [if_pos (by simp [putRowK, putRow, mapBlock, Sort.ahead]; exact hlt)]
      simp [putRowK, putRow, mapBlock, Sort.ahead, Array.getElem?_modify, hg, onCells]
    refine ⟨⟨by rw [flatMap_long enc k hk]; simp [hs], .inr ⟨g, cap, _, rfl, hb, hcell, hn, hm, by simpa [putCells] using hsz, ?_⟩⟩, ?_⟩
    · apply List.ext_getElem?
      intro j
      rw [List.getElem?_take, Array.getElem?_toList]
      by_cases hj : j < l.length * k
      · have hjc : j < cur.size := by rw [hsz]; omega
        rw [if_pos hj, flatG enc k hk d' d'.toList rfl j (by rw [hs]; exact hj)]
        simp only [putCells, Array.getElem?_mapIdx, Array.getElem?_eq_getElem hjc, Option.map_some]
        rw [if_pos (by simp [hs]; exact hj)]
        simp
      · rw [if_neg hj, List.getElem?_eq_none (by rw [flatMap_long enc k hk]; simp [hs]; omega)]
    · have hsize : w.heap.size ≤ (sortWorldK enc k w g 0 m d' os).heap.size := by simp [sortWorldK, grow, putRowK, putRow, mapBlock, Sort.ahead]
      have hblock : ∀ j, j < w.heap.size → g ≠ j → (sortWorldK enc k w g 0 m d' os).heap[j]? = w.heap[j]? := fun j hj hne => by
        unfold sortWorldK grow
        simp only [Array.getElem?_append]
        rw [if_pos (by simp [putRowK, putRow, mapBlock, Sort.ahead]; omega)]
        simp [putRowK, putRow, mapBlock, Sort.ahead, Array.getElem?_modify, hne]
      exact ⟨⟨rfl, rfl, rfl, hsize, fun j hj => hblock j (by omega) (by omega)⟩, ⟨rfl, rfl, rfl, hsize, fun j hj hne => hblock j hj (fun e => hne (by rw [e]))⟩⟩
end
section
variable {α : Type} [Inhabited α]
theorem perm_of {d d' : Array α} (h : PermIn 0 d.size d d') : d'.toList.Perm d.toList := by
  obtain ⟨h1, _, h2⟩ := h
  rw [Array.extract_eq_self_of_le (by omega), Array.extract_eq_self_of_le (Nat.le_refl _)] at h2
  exact h2
theorem sorted_of {lt : α → α → Bool} {d : Array α} (h : SortedIn lt 0 d.size d) : d.toList.Pairwise (fun x y => lt y x = false) := by
  rw [List.pairwise_iff_getElem]
  intro i j hi hj hij
  have := h i j (Nat.zero_le _) hij (by simpa using hj)
  simpa [getElem!_pos, show i < d.size by simpa using hi, show j < d.size by simpa using hj] using this
end
end Go.Proofs.Ytmcojidaimeijaa

/- The contract of cmp.Compare at numbers. -/

namespace Go.Proofs.Ytmcojidaimeijaa
open Go.RowKit
set_option linter.unusedVariables false
set_option linter.unusedSimpArgs false

set_option maxHeartbeats 400000 in
theorem isNaN_any (x : Int) (w : World) : Calls Try.prog 118 #[.int .i64 x] w fun e w' => e = .returned (.bool false) ∧ w = w' := by
  have h : (x != x) = false := by simp
  go_enter Try.func118, Try.ntmps118
  go_wp2
  go_ret
  exact ⟨rfl, rfl⟩

def cmpI (x y : Int) : Int := if x < y then -1 else if y < x then 1 else 0
set_option maxHeartbeats 400000 in
theorem compare_any (x y : Int) (w : World) : Calls Try.prog 89 #[.int .i64 x, .int .i64 y] w fun e w' => e = .returned (.int .i64 (cmpI x y)) ∧ w = w' := by
  go_enter Try.func89, Try.ntmps89
  go_wp2_with (go_at_call 118; refine (isNaN_any _ _).mono ?_; rintro e w' ⟨rfl, rfl⟩)
  all_goals go_ret
  all_goals exact ⟨ret_int (by unfold cmpI; first | rw [if_pos (by omega)] | rw [if_neg (by omega), if_pos (by omega)] | rw [if_neg (by omega), if_neg (by omega)]), rfl⟩

end Go.Proofs.Ytmcojidaimeijaa

/- The contract of slices.SortFunc at stays, at most 12 of them, by value. -/
/- stays: cells, append of one, reading. No condition beyond the contracts'. -/

namespace Go.Proofs.Ytmcojidaimeijaa
open Go.RowKit
set_option linter.unusedVariables false
set_option linter.unusedSimpArgs false

def styCells (l : List (Int × Int)) : List Value := l.flatMap fun p => [.int .i64 p.1, .int .i64 p.2]
theorem styCells_append (a b : List (Int × Int)) : styCells (a ++ b) = styCells a ++ styCells b := by simp [styCells]
theorem styCells_length (l : List (Int × Int)) : (styCells l).length = l.length * 2 := by
  induction l with
  | nil => rfl
  | cons x l ih => simp [styCells] at ih ⊢; omega
theorem styCells_get (l : List (Int × Int)) (i : Nat) (h : i < l.length) : (styCells l)[i * 2]? = some (.int .i64 l[i].1) ∧ (styCells l)[i * 2 + 1]? = some (.int .i64 l[i].2) := by
  induction l generalizing i with
  | nil => simp at h
  | cons x l ih =>
    cases i with
    | zero => simp [styCells]
    | succ i =>
      have := ih i (by simpa using h)
      rw [show (i + 1) * 2 = i * 2 + 2 from by omega, show i * 2 + 2 + 1 = i * 2 + 1 + 2 from by omega]
      simpa [styCells] using this
theorem info_sty : (Try.prog.info? 143).map (fun i => (i.zero, i.size, i.bytes)) = some (some (.agg #[.int .i64 0, .int .i64 0]), 2, 16) := by kernel_rfl
/-- append of one record that lies alone in block b. -/
theorem wpList_append_sty {w : World} {ops : Array Oper} {rest : List Oper} {o : Oper} {a : Act} {Q : Exit → Act → World → Prop} (hgd : o.guard = none) (s x : Operand)
    (ho : o.op = .call { callee := .builtin .append, args := #[s, x], argTypes := #[141, 141] })
    (base : Nat) (v : Value) (n : Nat) (l : List (Int × Int)) (hs : a.eval s = v) (hown : w.ownsRow base 143 2 v n (styCells l)) (b : Nat) (hx : a.eval x = .slice (some ⟨b, 0, none⟩) 1 1) (y : (Int × Int))
    (hb : Blk w b 143 #[.int .i64 y.1, .int .i64 y.2]) (hn : n ≤ 100000000) (hbase : base ≤ w.heap.size)
    (h : ∀ v' w', w'.ownsRow base 143 2 v' (n + 1) (styCells (l ++ [y])) → w.grownBy w' v.ownBlock → wpList Try.prog ops Q rest (a.put o.dst v') w') : wpList Try.prog ops Q (o :: rest) a w := by
  obtain ⟨i0, hi0, hz0, hz1, hz2⟩ := info_parts info_sty
  refine wpList_append_own w hgd s x 141 ho base 143 i0 _ 2 16 Try.underlying141 hi0 hz0 hz1 hz2 rfl (by decide) v n _ hs hown ⟨b, 0, none⟩ 1 1 (styCells [y]) hx rfl ?_ ?_ ?_ ?_ hbase ?_
  · intro j u hu
    have hbb := hb.cell j
    have hj : j < 2 := by
      rcases Nat.lt_or_ge j 2 with hlt | hge
      · exact hlt
      · rw [List.getElem?_eq_none (by simp [styCells]; exact hge)] at hu; cases hu
    have e1 : (⟨b, 0, none⟩ : Addr).add j = ⟨b, j, none⟩ := by unfold Addr.add; split <;> simp_all
    rw [e1, hbb, ← hu]
    simp [styCells]
  · intro u hu
    simp [styCells] at hu
    rcases hu with rfl | rfl <;> rfl
  · simp only [maxLen]; omega
  · omega
  · intro v' w' h1 h2 _
    exact h v' w' (by rw [styCells_append]; exact h1) h2
/-- append of one record that lies alone in block b, inside a fence. -/
theorem wpListIn_append_sty {F : Fence} {nn : Nat} {w : World} {ops : Array Oper} {rest : List Oper} {o : Oper} {a : Act} {Q : Exit → Act → World → Prop} (hgd : o.guard = none) (s x : Operand)
    (ho : o.op = .call { callee := .builtin .append, args := #[s, x], argTypes := #[141, 141] })
    (base : Nat) (v : Value) (n : Nat) (l : List (Int × Int)) (hs : a.eval s = v) (hown : w.ownsRow base 143 2 v n (styCells l)) (b : Nat) (hx : a.eval x = .slice (some ⟨b, 0, none⟩) 1 1) (y : (Int × Int))
    (hb : Blk w b 143 #[.int .i64 y.1, .int .i64 y.2]) (hn : n ≤ 100000000) (hbase : base ≤ w.heap.size)
    (h : ∀ v' w', w'.ownsRow base 143 2 v' (n + 1) (styCells (l ++ [y])) → w.grownBy w' v.ownBlock → wpListIn F nn Try.prog ops Q rest (a.put o.dst v') w') : wpListIn F nn Try.prog ops Q (o :: rest) a w := by
  obtain ⟨i0, hi0, hz0, hz1, hz2⟩ := info_parts info_sty
  refine wpListIn_append_own w hgd s x 141 ho base 143 i0 _ 2 16 Try.underlying141 hi0 hz0 hz1 hz2 rfl (by decide) v n _ hs hown ⟨b, 0, none⟩ 1 1 (styCells [y]) hx rfl ?_ ?_ ?_ ?_ hbase ?_
  · intro j u hu
    have hbb := hb.cell j
    have hj : j < 2 := by
      rcases Nat.lt_or_ge j 2 with hlt | hge
      · exact hlt
      · rw [List.getElem?_eq_none (by simp [styCells]; exact hge)] at hu; cases hu
    have e1 : (⟨b, 0, none⟩ : Addr).add j = ⟨b, j, none⟩ := by unfold Addr.add; split <;> simp_all
    rw [e1, hbb, ← hu]
    simp [styCells]
  · intro u hu
    simp [styCells] at hu
    rcases hu with rfl | rfl <;> rfl
  · simp only [maxLen]; omega
  · omega
  · intro v' w' h1 h2 _
    exact h v' w' (by rw [styCells_append]; exact h1) h2

/-- A slice of these records reads as l. -/
def RdSty (w : World) (v : Value) (l : List (Int × Int)) : Prop := Rd w 143 2 v l.length (styCells l)
theorem RdSty.cells {w : World} {v : Value} {l : List (Int × Int)} (h : RdSty w v l) (hn : 0 < l.length) :
    ∃ b off c, v = .slice (some ⟨b, off, none⟩) l.length c ∧ l.length ≤ c ∧ c ≤ maxLen ∧ b < w.heap.size ∧ ∀ i (hi : i < l.length), w.cell? ⟨b, off + i * 2, none⟩ = some (.int .i64 l[i].1) ∧ w.cell? ⟨b, off + i * 2 + 1, none⟩ = some (.int .i64 l[i].2) := by
  obtain ⟨b, off, c, hv, h2, h3, hlt, hc⟩ := Rd.cell h hn
  refine ⟨b, off, c, hv, h2, h3, hlt, fun i hi => ?_⟩
  obtain ⟨e0, e1⟩ := styCells_get l i hi
  have g1 := hc (i * 2 + 1) (by omega)
  exact ⟨by rw [hc (i * 2) (by omega), e0], by rw [Nat.add_assoc, g1, e1]⟩
theorem RdSty.lenv {w : World} {v : Value} {l : List (Int × Int)} (h : RdSty w v l) : ∃ pa ca, v = .slice pa l.length ca := by obtain ⟨_, pa, ca, rfl, _⟩ := h; exact ⟨pa, ca, rfl⟩
theorem own_sty {w : World} {base g c n : Nat} {l : List (Int × Int)} (h : w.ownsRow base 143 2 (.slice (some ⟨g, 0, none⟩) n c) n (styCells l)) (hl : l.length = n) (i : Nat) (hi : i < n) :
    w.cell? ⟨g, i * 2, none⟩ = some (.int .i64 (l[i]'(by omega)).1) ∧ w.cell? ⟨g, i * 2 + 1, none⟩ = some (.int .i64 (l[i]'(by omega)).2) := by
  obtain ⟨e0, e1⟩ := styCells_get l i (by omega)
  exact ⟨by rw [h.cellAt _ (by omega), e0], by rw [h.cellAt _ (by omega), e1]⟩
theorem styCells_set (l : List (Int × Int)) (i : Nat) (h : i < l.length) (y : (Int × Int)) : ((styCells l).set (i * 2) (.int .i64 y.1)).set (i * 2 + 1) (.int .i64 y.2) = styCells (l.set i y) := by
  induction l generalizing i with
  | nil => simp at h
  | cons x l ih =>
    cases i with
    | zero => simp [styCells]
    | succ i =>
      have := ih i (by simpa using h)
      simp only [List.set_cons_succ]
      have e : ∀ (x : (Int × Int)) (l : List (Int × Int)), styCells (x :: l) = [.int .i64 x.1, .int .i64 x.2] ++ styCells l := fun _ _ => by simp [styCells]
      rw [e, e, ← this, show (i + 1) * 2 = i * 2 + 2 from by omega, show i * 2 + 2 + 1 = i * 2 + 1 + 2 from by omega]
      simp
end Go.Proofs.Ytmcojidaimeijaa
namespace Go.Proofs.Ytmcojidaimeijaa
open Go.RowKit Go.Shelf Go.Sort Go.Lib
set_option linter.unusedVariables false
set_option linter.unusedSimpArgs false

def encSty (x : Int × Int) : List Value := [.int .i64 x.1, .int .i64 x.2]
def ordSty (x y : Int × Int) : Int := cmpI x.1 y.1
theorem cmpI_lt (x y : Int) : decide (cmpI x y < 0) = decide (x < y) := by
  unfold cmpI
  by_cases h : x < y
  · simp [h]
  · by_cases h2 : x = y <;> simp [h] <;> (try split) <;> omega
theorem ltOf_ordSty (x y : Int × Int) : ltOf ordSty x y = decide (x.1 < y.1) := by unfold ltOf ordSty; exact cmpI_lt x.1 y.1
theorem swo_ordSty : SWO (ltOf ordSty) where
  irrefl x := by rw [ltOf_ordSty]; simp
  trans x y z h1 h2 := by rw [ltOf_ordSty] at *; simp at *; omega
  ntrans x y z h1 h2 := by rw [ltOf_ordSty] at *; simp at *; omega
theorem encSty_one (x : Int × Int) : ∀ v ∈ encSty x, v.oneCell' = true := fun v hv => by
  simp [encSty] at hv
  rcases hv with rfl | rfl <;> rfl
theorem styCells_enc (l : List (Int × Int)) : styCells l = l.flatMap encSty := rfl

theorem median1_any (x y : Int × Int) (w : World) :
    Calls Try.prog 88 #[.agg #[.int .i64 x.1, .int .i64 x.2], .agg #[.int .i64 y.1, .int .i64 y.2]] w fun e w' => e = .returned (.int .i64 (cmpI x.1 y.1)) ∧ ∃ q os', w' = grow (w.drewN q) os' := by
  go_enter Try.func88, Try.ntmps88
  go_wp2_with (go_at_call 89; refine (compare_any _ _ _).mono ?_; rintro e w' ⟨rfl, rfl⟩)
  go_ret
  exact ⟨rfl, 0, _, by rw [alloc_eq_grow, alloc_eq_grow, grow_grow]; rfl⟩
theorem enter_median1 (args : Array Value) (w : World) : (callFunc 88 args).run Try.prog w = .ok (.enter 88 args) w := by kernel_rfl
theorem cmpLays_ordSty (blk off size : Nat) (w : World) : CmpLays Try.prog 88 #[] encSty 2 ordSty blk off size w :=
  fun _ _ _ _ x y => median1_any x y _

set_option maxHeartbeats 1000000 in
theorem insSty_none (p : Option Addr) (cap : Nat) (fv : Value) (w : World) :
    Calls Try.prog 129 #[.slice p 0 cap, .int .i64 0, .int .i64 0, fv] w fun e w' => e = .returned (.tuple #[]) ∧ w' = w := by
  go_enter Try.func129, Try.ntmps129
  go_wp2
  refine wp_loop_rounds 1 ?_
  rw [rounds_succ]
  go_wp2
  go_end0
  exact ⟨rfl, rfl⟩
set_option maxHeartbeats 2000000 in
theorem pdqSty_none (p : Option Addr) (cap : Nat) (lim : Int) (fv : Value) (w : World) :
    Calls Try.prog 116 #[.slice p 0 cap, .int .i64 0, .int .i64 0, .int .i64 lim, fv] w fun e w' => e = .returned (.tuple #[]) ∧ w' = w := by
  have hi := fun W => insSty_none p cap fv W
  go_enter Try.func116, Try.ntmps116
  go_wp2
  refine wp_loop_rounds 1 ?_
  rw [rounds_succ]
  go_wp2_with (go_at_call 129; refine (hi _).mono ?_; rintro e w' ⟨rfl, rfl⟩)
  (try simp only [Exit.inBlock, Exit.then]); refine bodyPost_ret (results_none rfl _ _ _) rfl ?_
  exact ⟨rfl, rfl⟩
theorem hlenSty (n : Nat) (W : World) (h : n ≤ 12) : Calls Try.prog 117 #[.int .u64 n] W fun e w' => e = .returned (.int .i64 (Lib.bitLen n : Nat)) ∧ w' = W := by
  have h := Any.bits_Len (SlLaysF0.n15.bits { Try.sortSty with }) (n : Int) W (by omega) (by omega)
  rwa [Int.toNat_natCast] at h
set_option maxHeartbeats 2000000 in
theorem sortSty_none (p : Option Addr) (cap : Nat) (fv : Value) (w : World) :
    Calls Try.prog 87 #[.slice p 0 cap, fv] w fun e w' => e = .returned (.tuple #[]) ∧ w' = w := by
  have hp := fun lim W => pdqSty_none p cap lim fv W
  have hl := fun W => hlenSty 0 W (by omega)
  go_enter Try.func87, Try.ntmps87
  go_wp2_with (first | (go_at_call 117; refine (hl _).mono ?_; rintro e w' ⟨rfl, rfl⟩) | (go_at_call 116; refine (hp _ _).mono ?_; rintro e w' ⟨rfl, rfl⟩))
  go_end0
  exact ⟨rfl, rfl⟩

theorem sortSty_any (v : Value) (l : List (Int × Int)) (base : Nat) (w : World) (hlong : l.length ≤ 12) (h : w.ownsRow base 143 2 v l.length (styCells l)) :
    Calls Try.prog 87 #[v, .func (.func 88) #[] #[]] w fun e w' => e = .returned (.tuple #[]) ∧
      ∃ l' : List (Int × Int), l'.Perm l ∧ l'.Pairwise (fun x y => x.1 ≤ y.1) ∧ w'.ownsRow base 143 2 v l'.length (styCells l') ∧ RowKit.Below base w w' ∧ w.grownBy w' v.ownBlock := by
  rcases h.2 with ⟨rfl, h0⟩ | ⟨g, cap, cur, rfl, hb, hg, hn, hm, hs, ht⟩
  · obtain rfl := List.eq_nil_of_length_eq_zero h0
    refine (sortSty_none none 0 _ w).mono ?_
    rintro e w' ⟨rfl, rfl⟩
    exact ⟨rfl, [], .refl _, .nil, h, RowKit.Below.refl _ _, ⟨rfl, rfl, rfl, Nat.le_refl _, fun _ _ _ => rfl⟩⟩
  · have hc := AnyQ.slices_SortFunc_small_sorted Try.sortSty 2 Try.isAgg143 Try.sizeOf143 encSty (fun _ => rfl) encSty_one ordSty 88 #[] swo_ordSty g 0 cap l.toArray w enter_median1 (cmpLays_ordSty _ _ _ _) (holds_of_own encSty 2 (fun _ => rfl) l h) (lt_of_heap hg) (by simpa using hlong) (fun n W hn => (hlenSty n W hn).mono (fun e w' ⟨h1, h2⟩ => ⟨⟨_, h1⟩, h2⟩))
    refine (show Calls Try.prog 87 #[.slice (some ⟨g, 0, none⟩) l.length cap, .func (.func 88) #[] #[]] w _ from hc).mono ?_
    rintro e w' ⟨rfl, d', n, os, hp, hsd, rfl⟩
    have hsz : d'.size = l.length := by have := hp.1; simpa using this
    have hpm := perm_of hp
    have hso := sorted_of (lt := ltOf ordSty) (d := d') (by rw [hp.1]; exact hsd)
    obtain ⟨h1, h2, h3⟩ := own_sortedG encSty 2 (fun _ => rfl) (m := n) (os := os) h hsz
    refine ⟨rfl, d'.toList, by simpa using hpm, hso.imp (fun {x y} h => by rw [ltOf_ordSty] at h; simp at h; omega), ?_, RowKit.Below.mono h2 hb, h3⟩
    rw [show d'.toList.length = l.length by simpa using hsz]
    exact h1
end Go.Proofs.Ytmcojidaimeijaa
