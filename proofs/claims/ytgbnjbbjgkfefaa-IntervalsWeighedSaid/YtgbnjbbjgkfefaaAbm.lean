/- The mathematics of the windows above a limit. -/
import Derived.Test.YtgbnjbbjgkfefaaJnd
import Derived.Test.YtgbnjbbjgkfefaaVlo
namespace Go.Proofs.Ytgbnjbbjgkfefaa
open Go.RowKit
set_option linter.unusedVariables false
set_option linter.unusedSimpArgs false

def abT (L : Int) (A : List (Int × Int) × Int) (v a b : Int) : List (Int × Int) × Int := if L < v then (jnF A.1 a b, A.2 + (b - a)) else A
def abR (L : Int) (r : List Rn) : List (Int × Int) × Int := r.foldl (fun A x => abT L A x.1.1 x.1.2.1 x.1.2.2) ([], 0)
def abS (L : Int) (r : List Str) : List (Int × Int) × Int := r.foldl (fun A x => abT L A x.s.v x.a x.b) ([], 0)
theorem abR_snoc (L : Int) (r : List Rn) (x : Rn) : abR L (r ++ [x]) = abT L (abR L r) x.1.1 x.1.2.1 x.1.2.2 := by simp [abR]
theorem abS_snoc (L : Int) (r : List Str) (x : Str) : abS L (r ++ [x]) = abT L (abS L r) x.s.v x.a x.b := by simp [abS]
theorem abR_long (L : Int) (r : List Rn) : (abR L r).1.length ≤ r.length ∧ 0 ≤ (abR L r).2 ∧ (abR L r).2 ≤ r.length * 345686400000 := by
  refine snocI (P := fun r => (abR L r).1.length ≤ r.length ∧ 0 ≤ (abR L r).2 ∧ (abR L r).2 ≤ r.length * 345686400000) (by simp [abR]) (fun r x ih => ?_) r
  rw [abR_snoc]
  have h := x.2
  unfold abT
  split
  · have := jnF_long (abR L r).1 x.1.2.1 x.1.2.2
    simp only [List.length_append, List.length_singleton]
    omega
  · simp only [List.length_append, List.length_singleton]
    omega
theorem abS_long (L : Int) {f t : Int} (h0 : 0 ≤ f) (ht : t ≤ 345686400000) (r : List Str) : (∀ x ∈ r, StrOk f t x) → (abS L r).1.length ≤ r.length ∧ 0 ≤ (abS L r).2 ∧ (abS L r).2 ≤ r.length * 345686400000 := by
  refine snocI (P := fun r => (∀ x ∈ r, StrOk f t x) → (abS L r).1.length ≤ r.length ∧ 0 ≤ (abS L r).2 ∧ (abS L r).2 ≤ r.length * 345686400000) (fun _ => by simp [abS]) (fun r x ih hr => ?_) r
  rw [abS_snoc]
  have ih := ih (fun y hy => hr y (by simp [hy]))
  have h := hr x (by simp)
  unfold StrOk at h
  unfold abT
  split
  · have := jnF_long (abS L r).1 x.a x.b
    simp only [List.length_append, List.length_singleton]
    omega
  · simp only [List.length_append, List.length_singleton]
    omega
theorem abR_map (f t q L : Int) (h0 : 0 ≤ f) (ht : t ≤ 345686400000) (r : List Str) : (∀ x ∈ r, StrOk f t x) → abR L (rnsOf q r) = abS L (r.filter fun x => decide (x.s.q ≤ q)) := by
  refine snocI (P := fun r => (∀ x ∈ r, StrOk f t x) → abR L (rnsOf q r) = abS L (r.filter fun x => decide (x.s.q ≤ q))) (fun _ => rfl) (fun r x ih hr => ?_) r
  have hx := hr x (by simp)
  have ih := ih (fun y hy => hr y (by simp [hy]))
  rw [rnsOf_snoc, List.filter_append]
  unfold StrOk at hx
  have hm := mkRn_eq (v := x.s.v) (a := x.a) (b := x.b) ⟨hx.2.2.2.1, by omega⟩
  split
  · rename_i hq
    rw [abR_snoc, ih, show [x].filter (fun x => decide (x.s.q ≤ q)) = [x] by simp [hq], abS_snoc, hm]
  · rename_i hq
    rw [ih, show [x].filter (fun x => decide (x.s.q ≤ q)) = [] by simp [hq], List.append_nil]

def aboV (l : List Smp) (f t L : Int) : List (Int × Int) × Int := abS L (valL l f t)
theorem aboV_is {l : List Smp} {f t L : Int} (hS : serErr l = 0) (hW : 0 ≤ f ∧ f ≤ t ∧ t ≤ 345686400000) : abR L (rnsOf 1 (strL l f t)) = aboV l f t L := abR_map f t 1 L hW.1 hW.2.2 _ (strL_ok hS)

theorem jnF_le {l : List (Int × Int)} {a b p : Int} (h : ∀ w ∈ l, w.2 ≤ p) (hb : b ≤ p) : ∀ w ∈ jnF l a b, w.2 ≤ p := by
  intro w hw
  unfold jnF at hw
  split at hw
  · rw [List.mem_append] at hw
    rcases hw with hw | hw
    · exact h w hw
    · simp only [List.mem_singleton] at hw; subst hw; exact hb
  · rcases List.mem_or_eq_of_mem_set hw with hw | hw
    · exact h w hw
    · subst hw; exact hb
theorem abS_le (L p : Int) (r : List Str) : (∀ x ∈ r, x.b ≤ p) → ∀ w ∈ (abS L r).1, w.2 ≤ p := by
  refine snocI (P := fun r => (∀ x ∈ r, x.b ≤ p) → ∀ w ∈ (abS L r).1, w.2 ≤ p) (fun _ w hw => by simp [abS] at hw) (fun r x ih hr => ?_) r
  rw [abS_snoc]
  unfold abT
  split
  · exact jnF_le (ih (fun y hy => hr y (by simp [hy]))) (hr x (by simp))
  · exact ih (fun y hy => hr y (by simp [hy]))
theorem chain_before {p : Int} {r : List Str} (h : Chain p r) (k : Nat) (hk : k < r.length) : p ≤ (atT r k).a ∧ ∀ x ∈ r.take k, x.b ≤ (atT r k).a := by
  induction r generalizing p k with
  | nil => simp at hk
  | cons y r ih =>
    cases k with
    | zero => exact ⟨h.1, fun x hx => by simp at hx⟩
    | succ k =>
      have h1 := ih h.2.2 k (by simpa using hk)
      have e : atT (y :: r) (k + 1) = atT r k := by simp [atT]
      rw [e]
      have hy := h.2.1
      have hp := h.1
      refine ⟨by omega, fun x hx => ?_⟩
      rw [List.take_succ_cons, List.mem_cons] at hx
      rcases hx with rfl | hx
      · exact h1.1
      · exact h1.2 x hx
theorem abS_take (L : Int) (r : List Str) (k : Nat) (h : k < r.length) : abS L (r.take (k + 1)) = abT L (abS L (r.take k)) (atT r k).s.v (atT r k).a (atT r k).b := by
  rw [List.take_succ_eq_append_getElem h, abS_snoc, atT_eq r k h]
/-- The reference asks whether the last window ends just there. -/
theorem jnF_ref {l : List (Int × Int)} {a b : Int} (h : ∀ w ∈ l, w.2 ≤ a) : jnF l a b = if l ≠ [] ∧ (l.getD (l.length - 1) (0, 0)).2 = a then l.set (l.length - 1) ((l.getD (l.length - 1) (0, 0)).1, b) else l ++ [(a, b)] := by
  unfold jnF
  by_cases hl : l = []
  · rw [if_pos (.inl hl), if_neg (fun h => h.1 hl)]
  · have hlt : l.length - 1 < l.length := by have := List.length_pos_iff.2 hl; omega
    have hm : (l.getD (l.length - 1) (0, 0)).2 ≤ a := by
      refine h _ ?_
      simp only [List.getD_eq_getElem?_getD, List.getElem?_eq_getElem hlt, Option.getD_some]
      exact List.getElem_mem hlt
    by_cases he : (l.getD (l.length - 1) (0, 0)).2 = a
    · rw [if_neg (by rintro (h | h); · exact hl h
                     · omega), if_pos ⟨hl, he⟩]
    · rw [if_pos (.inr (by omega)), if_neg (fun h => he h.2)]
end Go.Proofs.Ytgbnjbbjgkfefaa
