/- The median over time of a right series: mathematics. -/
/- Mathematics of the median over time: which value a sorted list of values and times stops at. -/
import Derived.Test.YtamcbiajicnbfaaBase
import Derived.Test.YtamcbiajicnbfaaAgm
namespace Go.Proofs.Ytamcbiajicnbfaa
set_option linter.unusedVariables false
set_option linter.unusedSimpArgs false

/-- The value at which the times so far are at least half. -/
def medF (tot : Int) : Int → List (Int × Int) → Option Int
  | _, [] => none
  | so, x :: r => if tot ≤ 2 * (so + x.2) then some x.1 else medF tot (so + x.2) r
/-- How long the value is at most v. -/
def wtF (v : Int) : List (Int × Int) → Int
  | [] => 0
  | x :: r => (if x.1 ≤ v then x.2 else 0) + wtF v r
def sumF : List (Int × Int) → Int
  | [] => 0
  | x :: r => x.2 + sumF r
theorem wtF_perm (v : Int) {a b : List (Int × Int)} (h : a.Perm b) : wtF v a = wtF v b := by
  induction h with
  | nil => rfl
  | cons x _ ih => simp only [wtF, ih]
  | swap x y l => simp only [wtF]; omega
  | trans _ _ h1 h2 => rw [h1, h2]
theorem sumF_perm {a b : List (Int × Int)} (h : a.Perm b) : sumF a = sumF b := by
  induction h with
  | nil => rfl
  | cons x _ ih => simp only [sumF, ih]
  | swap x y l => simp only [sumF]; omega
  | trans _ _ h1 h2 => rw [h1, h2]
theorem wtF_append (v : Int) (a b : List (Int × Int)) : wtF v (a ++ b) = wtF v a + wtF v b := by
  induction a with
  | nil => simp [wtF]
  | cons x r ih => simp only [List.cons_append, wtF, ih]; omega
theorem sumF_append (a b : List (Int × Int)) : sumF (a ++ b) = sumF a + sumF b := by
  induction a with
  | nil => simp [sumF]
  | cons x r ih => simp only [List.cons_append, sumF, ih]; omega
theorem wtF_all (v : Int) (a : List (Int × Int)) (h : ∀ x ∈ a, x.1 ≤ v) : wtF v a = sumF a := by
  induction a with
  | nil => rfl
  | cons x r ih => simp only [wtF, sumF, ih (fun y hy => h y (by simp [hy])), h x (by simp), if_true]
theorem wtF_none (v : Int) (a : List (Int × Int)) (h : ∀ x ∈ a, v < x.1) : wtF v a = 0 := by
  induction a with
  | nil => rfl
  | cons x r ih =>
    have := h x (by simp)
    simp only [wtF, ih (fun y hy => h y (by simp [hy]))]
    rw [if_neg (by omega)]; rfl
theorem wtF_pos (v : Int) (a : List (Int × Int)) (h : ∀ x ∈ a, 0 < x.2) : 0 ≤ wtF v a ∧ wtF v a ≤ sumF a ∧ 0 ≤ sumF a := by
  induction a with
  | nil => simp [wtF, sumF]
  | cons x r ih =>
    have h1 := h x (by simp)
    have h2 := ih (fun y hy => h y (by simp [hy]))
    simp only [wtF, sumF]
    split <;> omega
theorem medF_some (tot : Int) (r p : List (Int × Int)) (v : Int) (hs : (p ++ r).Pairwise (fun x y => x.1 ≤ y.1)) (hp : ∀ x ∈ p ++ r, 0 < x.2) (h : p = [] ∨ 2 * sumF p < tot) (e : medF tot (sumF p) r = some v) :
    (∃ x ∈ p ++ r, x.1 = v) ∧ tot ≤ 2 * wtF v (p ++ r) ∧ ∀ u ∈ p ++ r, u.1 < v → 2 * wtF u.1 (p ++ r) < tot := by
  induction r generalizing p with
  | nil => simp [medF] at e
  | cons x r ih =>
    by_cases hx : tot ≤ 2 * (sumF p + x.2)
    · simp only [medF, hx, if_true, Option.some.injEq] at e
      subst e
      rw [List.pairwise_append, List.pairwise_cons] at hs
      obtain ⟨_, ⟨hxr, _⟩, hpx⟩ := hs
      have hle : ∀ y ∈ p, y.1 ≤ x.1 := fun y hy => hpx y hy x (by simp)
      have hr0 := wtF_pos x.1 r (fun y hy => hp y (by simp [hy]))
      refine ⟨⟨x, by simp, rfl⟩, ?_, ?_⟩
      · rw [wtF_append, wtF_all x.1 p hle]
        simp only [wtF, Int.le_refl, if_true]
        omega
      · intro u hu hlt
        have hup : u ∈ p := by
          rcases List.mem_append.1 hu with h1 | h1
          · exact h1
          · rcases List.mem_cons.1 h1 with rfl | h1
            · omega
            · have := hxr u h1; omega
        have hne : 2 * sumF p < tot := h.resolve_left (fun e => by rw [e] at hup; simp at hup)
        have h1 := wtF_pos u.1 p (fun y hy => hp y (by simp [hy]))
        have h2 := wtF_none u.1 (x :: r) (fun y hy => by
          rcases List.mem_cons.1 hy with rfl | h3
          · exact hlt
          · have := hxr y h3; omega)
        rw [wtF_append, h2]
        omega
    · have e1 : p ++ x :: r = (p ++ [x]) ++ r := by simp
      have e2 : sumF (p ++ [x]) = sumF p + x.2 := by rw [sumF_append]; simp [sumF]
      simp only [medF, hx, if_false] at e
      rw [← e2] at e
      rw [e1] at hs hp ⊢
      exact ih (p ++ [x]) hs hp (.inr (by rw [e2]; omega)) e
theorem medF_none (tot : Int) (r : List (Int × Int)) (so : Int) (hr : r ≠ []) (hp : ∀ x ∈ r, 0 < x.2) (h : 0 ≤ so) (ht : tot ≤ so + sumF r) : medF tot so r ≠ none := by
  induction r generalizing so with
  | nil => exact absurd rfl hr
  | cons x r ih =>
    have hx := hp x (by simp)
    by_cases hc : tot ≤ 2 * (so + x.2)
    · simp [medF, hc]
    · simp only [medF, hc, if_false]
      simp only [sumF] at ht
      refine ih (so + x.2) ?_ (fun y hy => hp y (by simp [hy])) (by omega) (by omega)
      rintro rfl
      simp only [sumF] at ht
      omega
/-- Two sorted lists of the same pairs stop at the same value. -/
theorem medF_perm {a b : List (Int × Int)} (h : a.Perm b) (ha : a.Pairwise (fun x y => x.1 ≤ y.1)) (hb : b.Pairwise (fun x y => x.1 ≤ y.1)) (hp : ∀ x ∈ a, 0 < x.2) (tot : Int) (ht : tot = sumF a) : medF tot 0 a = medF tot 0 b := by
  have hpb : ∀ x ∈ b, 0 < x.2 := fun x hx => hp x (h.mem_iff.2 hx)
  by_cases hn : a = []
  · subst hn
    rw [h.symm.eq_nil]
  · have hnb : b ≠ [] := fun e => hn (by subst e; exact h.eq_nil)
    obtain ⟨u, hu⟩ := Option.ne_none_iff_exists'.1 (medF_none tot a 0 hn hp (Int.le_refl _) (by omega))
    obtain ⟨v, hv⟩ := Option.ne_none_iff_exists'.1 (medF_none tot b 0 hnb hpb (Int.le_refl _) (by rw [← sumF_perm h]; omega))
    obtain ⟨⟨x, hx, rfl⟩, h1, h2⟩ := medF_some tot a [] u ha hp (.inl rfl) hu
    obtain ⟨⟨y, hy, rfl⟩, h3, h4⟩ := medF_some tot b [] v hb hpb (.inl rfl) hv
    simp only [List.nil_append] at *
    rw [hu, hv]
    have e1 := wtF_perm x.1 h
    have e2 := wtF_perm y.1 h
    have h5 := h4 x (h.mem_iff.1 hx)
    have h6 := h2 y (h.mem_iff.2 hy)
    congr 1
    omega
end Go.Proofs.Ytamcbiajicnbfaa
namespace Go.Proofs.Ytamcbiajicnbfaa
set_option linter.unusedVariables false
set_option linter.unusedSimpArgs false

/-- Values and how long they stay. -/
def medV (r : List Str) : List (Int × Int) := r.map fun x => (x.s.v, x.b - x.a)
/-- The median over a right window of a right series. -/
def medR (l : List Smp) (f t : Int) : Option Int := medF (aggV l f t).g 0 ((medV (valL l f t)).mergeSort fun x y => decide (x.1 ≤ y.1))
theorem medV_sum (r : List Str) : sumF (medV r) = (agS r).g := by
  refine snocI (P := fun r => sumF (medV r) = (agS r).g) rfl (fun r x ih => ?_) r
  rw [agS_snoc, show medV (r ++ [x]) = medV r ++ [(x.s.v, x.b - x.a)] by simp [medV], sumF_append, ih]
  simp [sumF, agT]
theorem medV_pos {l : List Smp} {f t : Int} (hS : serErr l = 0) : ∀ x ∈ medV (valL l f t), 0 < x.2 := fun x hx => by
  obtain ⟨y, hy, rfl⟩ := List.mem_map.1 hx
  have := valL_ok hS y hy
  unfold StrOk at this
  show 0 < y.b - y.a
  omega
theorem medR_is {l : List Smp} {f t : Int} (hS : serErr l = 0) {r : List (Int × Int)} (hp : r.Perm (medV (valL l f t))) (hs : r.Pairwise (fun x y => x.1 ≤ y.1)) : medF (aggV l f t).g 0 r = medR l f t := by
  have hm := List.mergeSort_perm (medV (valL l f t)) (fun x y => decide (x.1 ≤ y.1))
  have hms := List.pairwise_mergeSort (le := fun x y : Int × Int => decide (x.1 ≤ y.1)) (fun x y z h1 h2 => by simp at *; omega) (fun x y => by simp; omega) (medV (valL l f t))
  refine medF_perm (hp.trans hm.symm) hs (hms.imp (fun {x y} h => by simpa using h)) (fun x hx => medV_pos hS x (hp.mem_iff.1 hx)) _ ?_
  rw [sumF_perm hp, medV_sum]
  rfl
theorem medV_perm {a b : List Str} (h : a.Perm b) : (medV a).Perm (medV b) := h.map _
theorem medV_sorted {a : List Str} (h : a.Pairwise (fun x y => x.s.v ≤ y.s.v)) : (medV a).Pairwise (fun x y => x.1 ≤ y.1) := by
  unfold medV
  rw [List.pairwise_map]
  exact h
theorem sumF_bound (B : Int) (r : List (Int × Int)) (h : ∀ x ∈ r, 0 < x.2 ∧ x.2 ≤ B) : 0 ≤ sumF r ∧ sumF r ≤ r.length * B := by
  induction r with
  | nil => simp [sumF]
  | cons x r ih =>
    have h1 := h x (by simp)
    have h2 := ih (fun y hy => h y (by simp [hy]))
    simp only [sumF, List.length_cons]
    rw [Int.natCast_add, Int.add_mul]
    omega
theorem sumF_take_le (r : List (Int × Int)) (k : Nat) (h : ∀ x ∈ r, 0 < x.2) : 0 ≤ sumF (r.take k) ∧ sumF (r.take k) ≤ sumF r := by
  have e := sumF_append (r.take k) (r.drop k)
  rw [List.take_append_drop] at e
  have h1 := wtF_pos 0 (r.take k) (fun x hx => h x (List.mem_of_mem_take hx))
  have h2 := wtF_pos 0 (r.drop k) (fun x hx => h x (List.mem_of_mem_drop hx))
  omega
theorem sumF_take (r : List (Int × Int)) (k : Nat) (h : k < r.length) : sumF (r.take (k + 1)) = sumF (r.take k) + r[k].2 := by
  rw [List.take_succ_eq_append_getElem h, sumF_append]; simp [sumF]
theorem medF_drop (tot so : Int) (r : List (Int × Int)) (k : Nat) (h : k < r.length) : medF tot so (r.drop k) = if tot ≤ 2 * (so + r[k].2) then some r[k].1 else medF tot (so + r[k].2) (r.drop (k + 1)) := by
  rw [List.drop_eq_getElem_cons h]; rfl
end Go.Proofs.Ytamcbiajicnbfaa
