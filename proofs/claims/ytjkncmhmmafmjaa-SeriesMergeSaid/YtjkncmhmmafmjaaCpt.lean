/- Mathematics of merging: the samples of two series, sorted, the first one of each moment kept, are the samples of Merge. -/
import Derived.Test.YtjkncmhmmafmjaaAlign
namespace Go.Proofs.Ytjkncmhmmafmjaa
open Go.RowKit
set_option linter.unusedVariables false
set_option linter.unusedSimpArgs false

/-- x comes before y in the reference's order. -/
def keyLt (x y : Smp) : Bool := decide (x.t < y.t ∨ (x.t = y.t ∧ (x.q < y.q ∨ (x.q = y.q ∧ y.v < x.v))))
def keyLe (x y : Smp) : Bool := !keyLt y x
/-- The first one of each moment. -/
def cpt : Option Int → List Smp → List Smp
  | _, [] => []
  | p, y :: r => if p = some y.t then cpt p r else y :: cpt (some y.t) r
/-- The moments rise, and are greater than p. -/
def Rise : Option Int → List Smp → Prop
  | _, [] => True
  | p, y :: r => (∀ t, p = some t → t < y.t) ∧ Rise (some y.t) r

theorem Rise.weak {p q : Option Int} {l : List Smp} (h : Rise p l) (hq : ∀ t, q = some t → ∃ s, p = some s ∧ t ≤ s) : Rise q l := by
  cases l with
  | nil => trivial
  | cons y r =>
    refine ⟨fun t ht => ?_, h.2⟩
    obtain ⟨s, hs, hts⟩ := hq t ht
    have := h.1 s hs
    omega
theorem Rise.none {p : Option Int} {l : List Smp} (h : Rise p l) : Rise none l := h.weak (fun _ ht => by cases ht)
theorem Rise.mem {s : Int} {l : List Smp} (h : Rise (some s) l) : ∀ x ∈ l, s < x.t := by
  induction l generalizing s with
  | nil => simp
  | cons y r ih =>
    intro x hx
    have h1 := h.1 s rfl
    rcases List.mem_cons.1 hx with rfl | hx
    · exact h1
    · have := ih h.2 x hx; omega

theorem cpt_rise {p : Option Int} {l : List Smp} (h : Rise p l) : cpt p l = l := by
  induction l generalizing p with
  | nil => rfl
  | cons y r ih =>
    unfold cpt
    rw [if_neg, ih h.2]
    intro hp
    have := h.1 y.t hp
    omega
theorem merge_front {y : Smp} {a b : List Smp} (h : Rise (some y.t) a) : List.merge a (y :: b) keyLe = y :: List.merge a b keyLe := by
  cases a with
  | nil => simp
  | cons x a =>
    have h1 := h.1 y.t rfl
    rw [List.cons_merge_cons, if_neg (by simp [keyLe, keyLt]; omega)]
theorem front_merge {x : Smp} {a b : List Smp} (h : Rise (some x.t) b) : List.merge (x :: a) b keyLe = x :: List.merge a b keyLe := by
  cases b with
  | nil => simp
  | cons y b =>
    have h1 := h.1 x.t rfl
    rw [List.cons_merge_cons, if_pos (by simp [keyLe, keyLt]; omega)]

theorem cpt_merge (a b : List Smp) (p : Option Int) (ha : Rise p a) (hb : Rise p b) : cpt p (List.merge a b keyLe) = algn a b := by
  match a, b with
  | [], b => rw [List.nil_merge, cpt_rise hb, algn_nil_left]
  | x :: a, [] => rw [List.merge_right, cpt_rise ha, algn_nil_right]
  | x :: a, y :: b =>
    rw [List.cons_merge_cons, algn_cons]
    have hx : p ≠ some x.t := fun hp => by have := ha.1 x.t hp; omega
    have hy : p ≠ some y.t := fun hp => by have := hb.1 y.t hp; omega
    by_cases h1 : x.t < y.t
    · rw [if_pos (by simp [keyLe, keyLt]; omega), if_pos h1, cpt, if_neg hx, cpt_merge a (y :: b) (some x.t) ha.2 ⟨fun t ht => by cases ht; exact h1, hb.2⟩]
    · by_cases h2 : y.t < x.t
      · rw [if_neg (by simp [keyLe, keyLt]; omega), if_neg h1, if_pos h2, cpt, if_neg hy, cpt_merge (x :: a) b (some y.t) ⟨fun t ht => by cases ht; exact h2, ha.2⟩ hb.2]
      · have he : x.t = y.t := by omega
        rw [if_neg h1, if_neg h2]
        have hb' : Rise (some x.t) b := by rw [he]; exact hb.2
        have ha' : Rise (some y.t) a := by rw [← he]; exact ha.2
        by_cases h3 : keyLe x y = true
        · rw [if_pos h3, cpt, if_neg hx, merge_front ha', cpt, if_pos (by rw [he]), cpt_merge a b (some x.t) ha.2 hb']
          have h4 : better x y = x := by
            unfold better
            simp [keyLe, keyLt] at h3
            split
            · rfl
            · rename_i h5
              obtain ⟨x1, x2, x3⟩ := x
              obtain ⟨y1, y2, y3⟩ := y
              simp at *
              omega
          rw [h4]
        · rw [if_neg h3, cpt, if_neg hy, front_merge hb', cpt, if_pos (by rw [he]), cpt_merge a b (some y.t) ha' hb.2]
          have h4 : better x y = y := by
            unfold better
            simp [keyLe, keyLt] at h3
            rw [if_neg]
            omega
          rw [h4]
  termination_by a.length + b.length

theorem keyLe_trans (x y z : Smp) (h1 : keyLe x y = true) (h2 : keyLe y z = true) : keyLe x z = true := by
  simp [keyLe, keyLt] at *; omega
theorem keyLe_total (x y : Smp) : (keyLe x y || keyLe y x) = true := by
  simp [keyLe, keyLt]; omega
theorem keyLe_anti (x y : Smp) (h1 : keyLe x y = true) (h2 : keyLe y x = true) : x = y := by
  obtain ⟨x1, x2, x3⟩ := x
  obtain ⟨y1, y2, y3⟩ := y
  simp [keyLe, keyLt] at *; omega
theorem Rise.sorted {p : Option Int} {l : List Smp} (h : Rise p l) : l.Pairwise (fun x y => keyLe x y = true) := by
  induction l generalizing p with
  | nil => exact .nil
  | cons y r ih =>
    refine .cons (fun x hx => ?_) (ih h.2)
    have := Rise.mem h.2 x hx
    simp [keyLe, keyLt]; omega
/-- Two sorted lists of the same samples are one. -/
theorem sorted_eq {l l' : List Smp} (hp : l.Perm l') (h : l.Pairwise (fun x y => keyLe x y = true)) (h' : l'.Pairwise (fun x y => keyLe x y = true)) : l = l' := by
  induction l generalizing l' with
  | nil => exact (List.Perm.nil_eq hp)
  | cons x r ih =>
    cases l' with
    | nil => exact absurd hp.length_eq (by simp)
    | cons y r' =>
      have hxy : x = y := by
        have h1 : x ∈ y :: r' := hp.subset (List.mem_cons_self ..)
        have h2 : y ∈ x :: r := hp.symm.subset (List.mem_cons_self ..)
        rcases List.mem_cons.1 h1 with e | h1
        · exact e
        · rcases List.mem_cons.1 h2 with e | h2
          · exact e.symm
          · exact keyLe_anti x y (List.rel_of_pairwise_cons h h2) (List.rel_of_pairwise_cons h' h1)
      subst hxy
      rw [ih (List.Perm.cons_inv hp) (List.Pairwise.of_cons h) (List.Pairwise.of_cons h')]
/-- What is sorted of the samples of two series, the first one of each moment kept, is their merging. -/
theorem cpt_sorted {a b s : List Smp} (ha : Rise none a) (hb : Rise none b) (hp : s.Perm (a ++ b)) (hs : s.Pairwise (fun x y => keyLe x y = true)) : cpt none s = algn a b := by
  have h : s = List.merge a b keyLe := by
    refine sorted_eq (hp.trans (List.merge_perm_append ..).symm) hs ?_
    exact List.pairwise_merge (fun x y z => keyLe_trans x y z) (fun x y => keyLe_total x y) _ _ ha.sorted hb.sorted
  rw [h, cpt_merge a b none ha hb]
end Go.Proofs.Ytjkncmhmmafmjaa
