import Derived.Test.YtmcojidaimeijaaBz01
import Derived.Test.YtmcojidaimeijaaBase
/- Mathematics: the indices that Compress archives rise; they are right indices. -/

namespace Go.Proofs.Ytmcojidaimeijaa
open Go.RowKit
set_option linter.unusedVariables false
set_option linter.unusedSimpArgs false

/-- Indices that rise up to the last one. -/
def UpTo (s : List Int × Nat) : Prop := s.1.Pairwise (· < ·) ∧ (∀ x ∈ s.1, 0 ≤ x ∧ x ≤ (s.2 : Int)) ∧ (s.1 ≠ [] → s.1.getLast? = some (s.2 : Int))
theorem keepI_up {i : Nat} {s : List Int × Nat} (h : UpTo s) (hi : s.1 = [] ∨ s.2 ≤ i) : UpTo (keepI i s) ∧ (keepI i s).2 = i ∧ (keepI i s).1 ≠ [] := by
  obtain ⟨h1, h2, h3⟩ := h
  refine ⟨?_, rfl, ?_⟩
  · unfold keepI UpTo
    by_cases hc : s.1.getLast? = some (i : Int)
    · rw [if_pos hc]
      refine ⟨h1, fun x hx => ?_, fun _ => hc⟩
      have hne : s.1 ≠ [] := fun e => by rw [e] at hx; cases hx
      have h4 := h3 hne
      rw [hc] at h4
      have h5 := Option.some.inj h4
      have h6 := h2 x hx
      simp only
      omega
    · rw [if_neg hc]
      have hlt : ∀ x ∈ s.1, x < (i : Int) := fun x hx => by
        have hne : s.1 ≠ [] := fun e => by rw [e] at hx; cases hx
        have h4 := h3 hne
        have h5 := h2 x hx
        have h6 : s.2 ≠ i := fun e => hc (by rw [h4, e])
        rcases hi with hi | hi
        · exact absurd hi hne
        · omega
      refine ⟨List.pairwise_append.2 ⟨h1, by simp, fun x hx y hy => by simp only [List.mem_singleton] at hy; subst hy; exact hlt x hx⟩, fun x hx => ?_, fun _ => by simp⟩
      rcases List.mem_append.1 hx with hx | hx
      · have := hlt x hx
        have := h2 x hx
        simp only
        omega
      · simp only [List.mem_singleton] at hx
        subst hx
        simp only
        omega
  · unfold keepI
    by_cases hc : s.1.getLast? = some (i : Int)
    · rw [if_pos hc]
      intro e
      simp only at e
      rw [e] at hc
      cases hc
    · rw [if_neg hc]
      simp
theorem compTo_up (d m : Int) (l : List Smp) (k : Nat) : UpTo (compTo d m l k) ∧ (0 < k → (compTo d m l k).2 < k) := by
  induction k with
  | zero => exact ⟨⟨List.Pairwise.nil, (fun x hx => by cases hx), fun h => absurd rfl h⟩, fun h => by omega⟩
  | succ k ih =>
    obtain ⟨h1, h2⟩ := ih
    have e : compTo d m l (k + 1) = compStep d m l k (compTo d m l k) := rfl
    rw [e]
    unfold compStep
    by_cases hk : k = 0
    · subst hk
      rw [if_pos rfl]
      obtain ⟨g1, g2, _⟩ := keepI_up (i := 0) h1 (.inl rfl)
      exact ⟨g1, fun _ => by rw [g2]; omega⟩
    · rw [if_neg hk]
      have h3 := h2 (by omega)
      obtain ⟨g1, g2, g3⟩ := keepI_up (i := k - 1) h1 (.inr (by omega))
      split
      · obtain ⟨f1, f2, _⟩ := keepI_up (i := k) g1 (.inr (by omega))
        exact ⟨f1, fun _ => by rw [f2]; omega⟩
      · split
        · exact ⟨g1, fun _ => by rw [g2]; omega⟩
        · exact ⟨h1, fun _ => by omega⟩
theorem rise_long {n : Int} (ks : List Int) : ∀ a : Int, ks.Pairwise (· < ·) → (∀ x ∈ ks, a ≤ x ∧ x < n) → a ≤ n → (ks.length : Int) ≤ n - a := by
  induction ks with
  | nil => intro a _ _ h; simp; omega
  | cons k r ih =>
    intro a hp hb ha
    obtain ⟨h1, h2⟩ := List.pairwise_cons.1 hp
    have h3 := hb k (by simp)
    have h4 := ih (k + 1) h2 (fun x hx => by have := h1 x hx; have := hb x (List.mem_cons_of_mem _ hx); omega) (by omega)
    simp only [List.length_cons]
    omega
theorem cmp_kept {d m : Int} {l : List Smp} (hS : serErr l = 0) : keptErr l (compressed d m l) = 0 := by
  have hup : (compressed d m l).Pairwise (· < ·) ∧ ∀ x ∈ compressed d m l, 0 ≤ x ∧ x < (l.length : Int) := by
    unfold compressed
    by_cases hl : l.length = 0
    · rw [if_pos hl]; exact ⟨List.Pairwise.nil, (fun x hx => by cases hx)⟩
    · rw [if_neg hl]
      obtain ⟨h1, h2⟩ := compTo_up d m l l.length
      have h3 := h2 (by omega)
      obtain ⟨g1, g2, _⟩ := keepI_up (i := l.length - 1) h1 (.inr (by omega))
      refine ⟨g1.1, fun x hx => ?_⟩
      have h4 := g1.2.1 x hx
      rw [g2] at h4
      omega
  have hlen := rise_long (n := (l.length : Int)) (compressed d m l) 0 hup.1 hup.2 (by omega)
  unfold keptErr idxErr
  rw [if_neg (by simp [hS]), if_neg (by omega)]
  exact idxFrom_zero _ _ none hup.1 hup.2 (fun q hq => by cases hq)
end Go.Proofs.Ytmcojidaimeijaa

/- Mathematics of the shortest way: what a table of the fewest steps leads to is the shortest way, of those the first in order. -/

namespace Go.Proofs.Ytmcojidaimeijaa
set_option linter.unusedVariables false
set_option linter.unusedSimpArgs false

/-- The best next step among those before k: where to, and how many steps follow; n: none. -/
def bestTo (E : Nat → Bool) (f : Nat → Nat) (n : Nat) : Nat → Nat × Nat
  | 0 => (n, 0)
  | k + 1 => if E k = true ∧ ((bestTo E f n k).1 = n ∨ f k + 1 < (bestTo E f n k).2) then (k, f k + 1) else bestTo E f n k
theorem bestTo_spec (E : Nat → Bool) (f : Nat → Nat) (n k : Nat) (hk : k ≤ n) :
    ((bestTo E f n k = (n, 0) ∧ ∀ j, j < k → E j = false) ∨
     ((bestTo E f n k).1 < k ∧ E (bestTo E f n k).1 = true ∧ (bestTo E f n k).2 = f (bestTo E f n k).1 + 1 ∧ ∀ j, j < k → E j = true → f (bestTo E f n k).1 ≤ f j ∧ (j < (bestTo E f n k).1 → f (bestTo E f n k).1 < f j))) := by
  induction k with
  | zero => exact .inl ⟨rfl, fun j hj => by omega⟩
  | succ k ih =>
    have ih := ih (by omega)
    simp only [bestTo]
    by_cases hE : E k = true
    · rcases ih with ⟨h1, h2⟩ | ⟨h1, h2, h3, h4⟩
      · rw [if_pos ⟨hE, .inl (by rw [h1])⟩]
        exact .inr ⟨by simp, hE, rfl, fun j hj hj2 => by
          by_cases h5 : j = k
          · subst h5; simp
          · have := h2 j (by omega); rw [hj2] at this; cases this⟩
      · by_cases h5 : f k + 1 < (bestTo E f n k).2
        · rw [if_pos ⟨hE, .inr h5⟩]
          refine .inr ⟨by simp, hE, rfl, fun j hj hj2 => ?_⟩
          by_cases h6 : j = k
          · subst h6; simp
          · have := h4 j (by omega) hj2
            simp only
            omega
        · rw [if_neg (by rintro ⟨_, h | h⟩ <;> omega)]
          refine .inr ⟨by omega, h2, h3, fun j hj hj2 => ?_⟩
          by_cases h6 : j = k
          · subst h6; omega
          · exact h4 j (by omega) hj2
    · have hE' : E k = false := by simpa using hE
      rw [if_neg (by rintro ⟨h, _⟩; exact hE h)]
      rcases ih with ⟨h1, h2⟩ | ⟨h1, h2, h3, h4⟩
      · exact .inl ⟨h1, fun j hj => by by_cases h5 : j = k; subst h5; exact hE'; exact h2 j (by omega)⟩
      · exact .inr ⟨by omega, h2, h3, fun j hj hj2 => by
          by_cases h5 : j = k
          · subst h5; rw [hE'] at hj2; cases hj2
          · exact h4 j (by omega) hj2⟩

/-- A way to the last of n: each step is allowed. -/
def Way (E : Nat → Nat → Bool) (n : Nat) : List Nat → Prop
  | [] => False
  | [x] => x + 1 = n
  | x :: y :: r => E x y = true ∧ Way E n (y :: r)
def lexL : List Nat → List Nat → Bool
  | _, [] => false
  | [], _ :: _ => true
  | x :: a, y :: b => decide (x < y) || (decide (x = y) && lexL a b)
def pathN (nx : Nat → Nat) (n : Nat) : Nat → Nat → List Nat
  | 0, _ => []
  | k + 1, i => if i < n then i :: pathN nx n k (nx i) else []

/-- A table of the fewest steps. -/
structure Tab (E : Nat → Nat → Bool) (n : Nat) (f nx : Nat → Nat) : Prop where
  up : ∀ a b, E a b = true → a < b
  one : ∀ a, a + 1 < n → E a (a + 1) = true
  eq : ∀ i, i < n → (nx i, f i) = bestTo (E i) f n n
section
variable {E : Nat → Nat → Bool} {n : Nat} {f nx : Nat → Nat}
theorem Tab.last (h : Tab E n f nx) (i : Nat) (hi : i + 1 = n) : nx i = n ∧ f i = 0 := by
  have e := h.eq i (by omega)
  rcases bestTo_spec (E i) f n n (Nat.le_refl _) with ⟨h1, _⟩ | ⟨h1, h2, _⟩
  · rw [h1] at e; simpa using e
  · have := h.up _ _ h2; omega
theorem Tab.step (h : Tab E n f nx) (i : Nat) (hi : i + 1 < n) : i < nx i ∧ nx i < n ∧ E i (nx i) = true ∧ f i = f (nx i) + 1 ∧ ∀ j, j < n → E i j = true → f (nx i) ≤ f j ∧ (j < nx i → f (nx i) < f j) := by
  have e := h.eq i (by omega)
  rcases bestTo_spec (E i) f n n (Nat.le_refl _) with ⟨h1, h2⟩ | ⟨h1, h2, h3, h4⟩
  · have := h2 (i + 1) hi; rw [h.one i hi] at this; cases this
  · have e1 : nx i = (bestTo (E i) f n n).1 := congrArg Prod.fst e
    have e2 : f i = (bestTo (E i) f n n).2 := congrArg Prod.snd e
    rw [← e1] at h1 h2 h3 h4
    exact ⟨h.up _ _ h2, h1, h2, by rw [e2, h3], h4⟩
theorem Way.lt (h : Tab E n f nx) {c : List Nat} (hw : Way E n c) : ∀ x ∈ c, x < n := by
  induction c with
  | nil => exact hw.elim
  | cons x r ih =>
    cases r with
    | nil => intro y hy; simp at hy; subst hy; unfold Way at hw; omega
    | cons y r =>
      obtain ⟨h1, h2⟩ := hw
      have := ih h2
      intro z hz
      rcases List.mem_cons.1 hz with rfl | hz
      · have := h.up _ _ h1; have := this; have := ih h2 y (by simp); omega
      · exact ih h2 z hz
theorem Way.long (h : Tab E n f nx) (c : List Nat) (i : Nat) (hw : Way E n (i :: c)) : f i + 1 ≤ (i :: c).length := by
  induction c generalizing i with
  | nil => have := (h.last i hw).2; simp; omega
  | cons j r ih =>
    obtain ⟨h1, h2⟩ := hw
    have hj := Way.lt h h2 j (by simp)
    have hi := h.up _ _ h1
    obtain ⟨_, _, _, s4, s5⟩ := h.step i (by omega)
    have := ih j h2
    have := (s5 j hj h1).1
    simp only [List.length_cons] at *
    omega
theorem path_way (h : Tab E n f nx) (k i : Nat) (hi : i < n) (hk : n - i ≤ k) : ∃ r, pathN nx n k i = i :: r ∧ Way E n (i :: r) ∧ (i :: r).length = f i + 1 := by
  induction k generalizing i with
  | zero => omega
  | succ k ih =>
    unfold pathN
    rw [if_pos hi]
    by_cases hl : i + 1 = n
    · obtain ⟨l1, l2⟩ := h.last i hl
      have : pathN nx n k (nx i) = [] := by
        rw [l1]; cases k with
        | zero => rfl
        | succ k => unfold pathN; rw [if_neg (by omega)]
      exact ⟨[], by rw [this], hl, by simp [l2]⟩
    · obtain ⟨s1, s2, s3, s4, _⟩ := h.step i (by omega)
      obtain ⟨r, e1, e2, e3⟩ := ih (nx i) s2 (by omega)
      exact ⟨nx i :: r, by rw [e1], ⟨s3, e2⟩, by simp only [List.length_cons] at *; omega⟩
/-- Of the shortest ways the table's is the first in order. -/
theorem path_first (h : Tab E n f nx) (k i : Nat) (hi : i < n) (hk : n - i ≤ k) (c : List Nat) (hw : Way E n (i :: c)) (hl : (i :: c).length = f i + 1) : pathN nx n k i = i :: c ∨ lexL (pathN nx n k i) (i :: c) = true := by
  induction k generalizing i c with
  | zero => omega
  | succ k ih =>
    obtain ⟨r, e1, e2, e3⟩ := path_way h (k + 1) i hi hk
    cases c with
    | nil =>
      have : r = [] := by
        have : (i :: r).length = 1 := by rw [e3, ← hl]; rfl
        simpa using this
      exact .inl (by rw [e1, this])
    | cons j c =>
      obtain ⟨h1, h2⟩ := hw
      have hj := Way.lt h h2 j (by simp)
      have hij := h.up _ _ h1
      obtain ⟨s1, s2, s3, s4, s5⟩ := h.step i (by omega)
      have hlen := Way.long h c j h2
      have hm := s5 j hj h1
      have hfj : f j = f (nx i) := by simp only [List.length_cons] at *; omega
      unfold pathN
      rw [if_pos hi]
      by_cases hlt : nx i < j
      · obtain ⟨r2, g1, _, _⟩ := path_way h k (nx i) s2 (by omega)
        exact .inr (by rw [g1]; simp [lexL, hlt])
      · have hje : j = nx i := by
          rcases Nat.lt_or_ge j (nx i) with h3 | h3
          · have := hm.2 h3; omega
          · omega
        subst hje
        rcases ih (nx i) s2 (by omega) c h2 (by simp only [List.length_cons] at *; omega) with h3 | h3
        · exact .inl (by rw [h3])
        · exact .inr (by simp [lexL, h3])
end
end Go.Proofs.Ytmcojidaimeijaa

/- Mathematics of a search over all sets: every rising list is the set of some number; the first least one is found. -/

namespace Go.Proofs.Ytmcojidaimeijaa
set_option linter.unusedVariables false
set_option linter.unusedSimpArgs false

/-- The places below n whose bit is set in m, rising. -/
def bitsL (m n : Nat) : List Nat := (List.range n).filter fun i => m.testBit i
theorem bitsL_succ (m n : Nat) : bitsL m (n + 1) = bitsL m n ++ (if m.testBit n = true then [n] else []) := by
  unfold bitsL
  rw [List.range_succ, List.filter_append]
  by_cases h : m.testBit n = true
  · rw [if_pos h, List.filter_cons_of_pos (by exact h)]; rfl
  · rw [if_neg h, List.filter_cons_of_neg (by exact h)]; rfl
theorem bitsL_congr (a b n : Nat) (h : ∀ i, i < n → a.testBit i = b.testBit i) : bitsL a n = bitsL b n := by
  unfold bitsL
  refine List.filter_congr fun i hi => h i (List.mem_range.1 hi)
theorem bitsL_lt (m n : Nat) : ∀ x ∈ bitsL m n, x < n := by
  intro x hx
  unfold bitsL at hx
  exact List.mem_range.1 (List.mem_filter.1 hx).1
theorem bitsL_rises (m n : Nat) : (bitsL m n).Pairwise (· < ·) := by
  unfold bitsL
  exact List.Pairwise.sublist List.filter_sublist List.pairwise_lt_range

/-- Every rising list below n is the set of a number below 2^n. -/
theorem bitsL_all (n : Nat) : ∀ c : List Nat, c.Pairwise (· < ·) → (∀ x ∈ c, x < n) → ∃ m, m < 2 ^ n ∧ bitsL m n = c := by
  induction n with
  | zero =>
    intro c _ hc
    cases c with
    | nil => exact ⟨0, by decide, rfl⟩
    | cons x r => exact absurd (hc x (by simp)) (by omega)
  | succ n ih =>
    intro c hp hc
    have hpow : 2 ^ (n + 1) = 2 ^ n + 2 ^ n := by rw [Nat.pow_succ]; omega
    rcases List.eq_nil_or_concat c with rfl | ⟨c', x, rfl⟩
    · obtain ⟨m, hm, hb⟩ := ih [] List.Pairwise.nil (by simp)
      refine ⟨m, by omega, ?_⟩
      rw [bitsL_succ, hb, Nat.testBit_lt_two_pow hm]; rfl
    · rw [List.concat_eq_append] at hp hc
      obtain ⟨h1, _, h3⟩ := List.pairwise_append.1 hp
      have hx : x < n + 1 := hc x (by simp)
      have hlt : ∀ y ∈ c', y < x := fun y hy => h3 y hy x (by simp)
      by_cases hxn : x = n
      · subst hxn
        obtain ⟨m, hm, hb⟩ := ih c' h1 hlt
        refine ⟨2 ^ x + m, by omega, ?_⟩
        rw [bitsL_succ, bitsL_congr (2 ^ x + m) m x (fun i hi => Nat.testBit_two_pow_add_gt hi m), hb,
          Nat.testBit_two_pow_add_eq, Nat.testBit_lt_two_pow hm, List.concat_eq_append]
        rfl
      · obtain ⟨m, hm, hb⟩ := ih (c' ++ [x]) hp (fun y hy => by
          rcases List.mem_append.1 hy with h | h
          · have := hlt y h; omega
          · have : y = x := by simpa using h
            omega)
        refine ⟨m, by omega, ?_⟩
        rw [bitsL_succ, hb, Nat.testBit_lt_two_pow hm, List.concat_eq_append]
        simp

/-- Shorter, or as long and before it in order. -/
def ltK (a b : List Nat) : Bool := decide (a.length < b.length) || (decide (a.length = b.length) && lexL a b)
theorem lexL_self (a : List Nat) : lexL a a = false := by
  induction a with
  | nil => rfl
  | cons x a ih => simp [lexL, ih]
theorem lexL_not (a : List Nat) : ∀ b, lexL a b = true → lexL b a = false := by
  induction a with
  | nil =>
    intro b h
    cases b with
    | nil => simp [lexL] at h
    | cons y b => rfl
  | cons x a ih =>
    intro b h
    cases b with
    | nil => simp [lexL] at h
    | cons y b =>
      simp only [lexL, Bool.or_eq_true, Bool.and_eq_true, decide_eq_true_eq] at h
      simp only [lexL, Bool.or_eq_false_iff, Bool.and_eq_false_iff, decide_eq_false_iff_not]
      rcases h with h | ⟨h, h2⟩
      · exact ⟨by omega, .inl (by omega)⟩
      · exact ⟨by omega, .inr (ih b h2)⟩
theorem ltK_self (a : List Nat) : ltK a a = false := by simp [ltK, lexL_self]
theorem ltK_not {a b : List Nat} (h : ltK a b = true) : ltK b a = false := by
  simp only [ltK, Bool.or_eq_true, Bool.and_eq_true, decide_eq_true_eq] at h
  simp only [ltK, Bool.or_eq_false_iff, Bool.and_eq_false_iff, decide_eq_false_iff_not]
  rcases h with h | ⟨h, h2⟩
  · exact ⟨by omega, .inl (by omega)⟩
  · exact ⟨by omega, .inr (lexL_not _ _ h2)⟩

/-- The search over the sets below m: the empty list stands for none. -/
def minTo (F : List Nat → Bool) (n : Nat) : Nat → List Nat
  | 0 => []
  | m + 1 => if (minTo F n m = [] ∨ ltK (bitsL m n) (minTo F n m) = true) ∧ F (bitsL m n) = true then bitsL m n else minTo F n m
theorem minTo_fits (F : List Nat → Bool) (n m : Nat) : minTo F n m = [] ∨ ∃ q, minTo F n m = bitsL q n ∧ F (bitsL q n) = true := by
  induction m with
  | zero => exact .inl rfl
  | succ m ih =>
    simp only [minTo]
    by_cases h : (minTo F n m = [] ∨ ltK (bitsL m n) (minTo F n m) = true) ∧ F (bitsL m n) = true
    · rw [if_pos h]; exact .inr ⟨m, rfl, h.2⟩
    · rw [if_neg h]; exact ih
theorem minTo_found (F : List Nat → Bool) (n : Nat) (p : List Nat) (hp : p ≠ []) (hF : F p = true)
    (hmin : ∀ q, F (bitsL q n) = true → bitsL q n = p ∨ ltK p (bitsL q n) = true)
    (q : Nat) (hq : bitsL q n = p) (m : Nat) (hm : q < m) : minTo F n m = p := by
  induction m with
  | zero => omega
  | succ m ih =>
    simp only [minTo]
    by_cases h : q < m
    · rw [ih h, if_neg]
      rintro ⟨h1 | h1, h2⟩
      · exact hp h1
      · rcases hmin _ h2 with h3 | h3
        · rw [h3, ltK_self] at h1; cases h1
        · rw [ltK_not h3] at h1; cases h1
    · obtain rfl : q = m := by omega
      rw [hq]
      by_cases hc : (minTo F n q = [] ∨ ltK p (minTo F n q) = true) ∧ F p = true
      · rw [if_pos hc]
      · rw [if_neg hc]
        rcases minTo_fits F n q with h1 | ⟨q', h1, h1'⟩
        · exact absurd ⟨.inl h1, hF⟩ hc
        · rcases hmin _ h1' with h2 | h2
          · rw [h1]; exact h2
          · exact absurd ⟨.inr (by rw [h1]; exact h2), hF⟩ hc
/-- What the search over all sets finds, where p is the least that fits. -/
theorem minTo_all (F : List Nat → Bool) (n : Nat) (p : List Nat) (hp : p ≠ []) (hF : F p = true)
    (hmin : ∀ c : List Nat, c.Pairwise (· < ·) → (∀ x ∈ c, x < n) → F c = true → c = p ∨ ltK p c = true)
    (hr : p.Pairwise (· < ·)) (hlt : ∀ x ∈ p, x < n) : minTo F n (2 ^ n) = p := by
  obtain ⟨q, hq, hb⟩ := bitsL_all n p hr hlt
  exact minTo_found F n p hp hF (fun q h => hmin _ (bitsL_rises q n) (bitsL_lt q n) h) q hb _ hq

section
variable {E : Nat → Nat → Bool} {n : Nat} {f nx : Nat → Nat}
theorem Way.rises (h : Tab E n f nx) {c : List Nat} (hw : Way E n c) : c.Pairwise (· < ·) := by
  induction c with
  | nil => exact .nil
  | cons x r ih =>
    cases r with
    | nil => simp
    | cons y r =>
      obtain ⟨h1, h2⟩ := hw
      have h3 := ih h2
      have h4 := h.up _ _ h1
      refine List.Pairwise.cons (fun z hz => ?_) h3
      rcases List.mem_cons.1 hz with rfl | hz
      · exact h4
      · exact Nat.lt_trans h4 (List.rel_of_pairwise_cons h3 hz)
/-- The table's way from 0 is what the search over all sets finds. -/
theorem minTo_way (h : Tab E n f nx) (hn : 0 < n) (F : List Nat → Bool)
    (hF : ∀ c : List Nat, c.Pairwise (· < ·) → (∀ x ∈ c, x < n) → (F c = true ↔ ∃ r, c = 0 :: r ∧ Way E n c)) :
    minTo F n (2 ^ n) = pathN nx n n 0 := by
  obtain ⟨r, e1, e2, e3⟩ := path_way h n 0 hn (by omega)
  have hr := Way.rises h e2
  have hl := Way.lt h e2
  refine minTo_all F n _ (by rw [e1]; simp) (by rw [e1]; exact (hF _ hr hl).2 ⟨r, rfl, e2⟩) ?_ (by rw [e1]; exact hr) (by rw [e1]; exact hl)
  intro c hc1 hc2 hc3
  obtain ⟨r', rfl, hw⟩ := (hF c hc1 hc2).1 hc3
  have hlong := Way.long h r' 0 hw
  by_cases hl2 : (0 :: r').length = f 0 + 1
  · rcases path_first h n 0 hn (by omega) r' hw hl2 with h1 | h1
    · exact .inl h1.symm
    · refine .inr ?_
      rw [e1] at h1 ⊢
      simp only [ltK, Bool.or_eq_true, Bool.and_eq_true, decide_eq_true_eq]
      exact .inr ⟨by rw [e3, hl2], h1⟩
  · refine .inr ?_
    rw [e1]
    simp only [ltK, Bool.or_eq_true, Bool.and_eq_true, decide_eq_true_eq]
    exact .inl (by rw [e3]; omega)
end
end Go.Proofs.Ytmcojidaimeijaa

/- Plain mathematics of the compression: what one more sample archives. -/

namespace Go.Proofs.Ytmcojidaimeijaa
open Go.RowKit
set_option linter.unusedVariables false
set_option linter.unusedSimpArgs false

def choI (l : List Smp) (ks : List Int) : List Smp := ks.map fun k => atS l k.toNat
theorem choI_app (l : List Smp) (a b : List Int) : choI l (a ++ b) = choI l a ++ choI l b := by simp [choI]
theorem atS_snoc (l : List Smp) (x : Smp) (i : Nat) (h : i < l.length) : atS (l ++ [x]) i = atS l i := by simp [atS, List.getD_eq_getElem?_getD, List.getElem?_append_left h]
theorem atS_last (l : List Smp) (x : Smp) : atS (l ++ [x]) l.length = x := by simp [atS, List.getD_eq_getElem?_getD]
theorem choI_snoc (l : List Smp) (x : Smp) (ks : List Int) (h : ∀ k ∈ ks, 0 ≤ k ∧ k < (l.length : Int)) : choI (l ++ [x]) ks = choI l ks := by
  unfold choI
  refine List.map_congr_left fun k hk => ?_
  have := h k hk
  exact atS_snoc l x _ (by omega)

/-- The moments rise, and Bad samples have the value 0. -/
structure Okl (l : List Smp) : Prop where
  lt : ∀ i k, i < k → k < l.length → (atS l i).t < (atS l k).t
  bad : ∀ j, j < l.length → (atS l j).q = 2 → (atS l j).v = 0

/-- The pivot. -/
def piv (d m : Int) (l : List Smp) : Nat := (compTo d m l l.length).2
/-- Samples were held after the pivot. -/
def beg (d m : Int) (l : List Smp) : Bool := decide (piv d m l + 1 < l.length)
/-- What has been archived. -/
def arch (d m : Int) (l : List Smp) : List Smp := choI l (compTo d m l l.length).1

theorem piv_lt {d m : Int} {l : List Smp} (h : 0 < l.length) : piv d m l < l.length := (compTo_inv d m l _ h).1

/-- All samples from the pivot on are of one quality. -/
theorem compTo_qual (d m : Int) (l : List Smp) (k : Nat) (hk : 0 < k) : ∀ j, (compTo d m l k).2 ≤ j → j < k → (atS l j).q = (atS l (compTo d m l k).2).q := by
  induction k with
  | zero => omega
  | succ k ih =>
    rcases Nat.eq_zero_or_pos k with rfl | hk0
    · intro j h1 h2
      obtain rfl : j = 0 := by omega
      simp [compTo, compStep, keepI]
    · have ih := ih hk0
      obtain ⟨h1, h2, h3, h4⟩ := compTo_inv d m l k hk0
      have hl := ih (k - 1) (by omega) (by omega)
      simp only [compTo]
      unfold compStep
      rw [if_neg (by omega)]
      by_cases hq : (atS l k).q ≠ (atS l (compTo d m l k).2).q
      · rw [if_pos hq]
        intro j a b
        simp only [keepI] at a ⊢
        obtain rfl : j = k := by omega
        rfl
      · rw [if_neg hq]
        have hq' : (atS l k).q = (atS l (compTo d m l k).2).q := by omega
        by_cases hs : shut d m l (compTo d m l k).2 k = true
        · rw [if_pos hs]
          intro j a b
          simp only [keepI] at a ⊢
          by_cases hj : j = k
          · subst hj; omega
          · obtain rfl : j = k - 1 := by omega
            rfl
        · rw [if_neg hs]
          intro j a b
          by_cases hj : j = k
          · subst hj; exact hq'
          · exact ih j a (by omega)

/-- Does a span accept the next sample? -/
def accB (m : Int) (l : List Smp) (p k : Nat) (lo hi : Int × Int) : Bool := (decide ((atS l k).t - (atS l p).t ≤ m) && !slt (slopeI l p k 0) lo) && !slt hi (slopeI l p k 0)
theorem acc_shut {d m : Int} {l : List Smp} {p k : Nat} {lo hi : Int × Int} (ho : Okl l) (hd : 0 ≤ d) (hk : k < l.length) (hp : p + 1 < k) (h1 : IsLow d l p k lo) (h2 : IsHigh d l p k hi)
    (hq : ∀ j, p ≤ j → j ≤ k → (atS l j).q = (atS l p).q) : accB m l p k lo hi = !(shut d m l p k) := by
  have hc := span_cov (d := d) ho.lt hk hp h1 h2
  have hc' : (!slt (slopeI l p k 0) lo && !slt hi (slopeI l p k 0)) = cov d l p k := by
    by_cases h : Cov d l p k
    · rw [cov_true.2 h]; obtain ⟨a, b⟩ := hc.1 h; simp [a, b]
    · rw [cov_false.2 h]
      by_cases a : slt (slopeI l p k 0) lo = false <;> by_cases b : slt hi (slopeI l p k 0) = false
      · exact absurd (hc.2 ⟨a, b⟩) h
      · simp [b]
      · simp [a]
      · simp [a]
  unfold accB shut
  rw [Bool.and_assoc, hc']
  by_cases hb : (atS l k).q = 2
  · have hz : cov d l p k = true := cov_true.2 (cov_zero hd (by have := ho.lt p k (by omega) hk; omega) (fun j a b => ho.bad j (by omega) (by rw [hq j a b, ← hq k (by omega) (Nat.le_refl _)]; exact hb)) (by omega))
    rw [hz]
    by_cases hl : (atS l k).t - (atS l p).t ≤ m
    · simp [hl, hb]
    · simp [hl, hb]; omega
  · by_cases hl : (atS l k).t - (atS l p).t ≤ m
    · simp [hl, hb]
    · simp [hl, hb]

variable {d m : Int} {l : List Smp} {x : Smp}
theorem first_step : arch d m ([] ++ [x]) = [x] ∧ piv d m ([] ++ [x]) = 0 := by simp [arch, piv, compTo, compStep, keepI, choI, atS]

theorem comp_len (h : 0 < l.length) : compTo d m (l ++ [x]) (l ++ [x]).length = compStep d m (l ++ [x]) l.length (compTo d m l l.length) := by
  rw [List.length_append, List.length_singleton]
  simp only [compTo]
  rw [compTo_snoc d m l [x] _ (Nat.le_refl _)]
theorem arch_old (h : 0 < l.length) : choI (l ++ [x]) (compTo d m l l.length).1 = arch d m l := choI_snoc l x _ (compTo_inv d m l _ h).2.2.1
theorem held_old (h : 0 < l.length) : atS (l ++ [x]) (l.length - 1) = atS l (l.length - 1) := atS_snoc l x _ (by omega)

/-- Another quality: the held sample, if it is not archived, and the new one. -/
theorem qual_step (h : 0 < l.length) (hq : x.q ≠ (atS l (piv d m l)).q) :
    arch d m (l ++ [x]) = arch d m l ++ ((if beg d m l = true then [atS l (l.length - 1)] else []) ++ [x]) ∧ piv d m (l ++ [x]) = l.length := by
  obtain ⟨h1, h2, h3, h4⟩ := compTo_inv d m l _ h
  have e : compTo d m (l ++ [x]) (l ++ [x]).length = keepI l.length (keepI (l.length - 1) (compTo d m l l.length)) := by
    rw [comp_len h]; unfold compStep; rw [if_neg (by omega), if_pos]; rw [atS_last, atS_snoc l x _ h1]; exact hq
  unfold arch piv
  rw [e]
  refine ⟨?_, rfl⟩
  by_cases hb : (compTo d m l l.length).2 = l.length - 1
  · rw [keepI_same h2 hb, keepI_other h2 (by omega)]
    have : beg d m l = false := by unfold beg piv; simp; omega
    rw [this, if_neg (by simp), choI_app, arch_old h]
    simp [arch, choI, atS_last]
  · rw [keepI_other (i := l.length - 1) h2 hb, keepI_other (by simp) (by simp; omega)]
    have : beg d m l = true := by unfold beg piv; simp; omega
    rw [this, if_pos rfl]
    simp only
    rw [choI_app, choI_app, arch_old h]
    have e1 : (((l.length - 1 : Nat) : Int)).toNat = l.length - 1 := by omega
    simp [arch, choI, atS_last]
    exact held_old h
/-- It is not accepted: the held sample. -/
theorem shut_step (h : 0 < l.length) (hq : x.q = (atS l (piv d m l)).q) (hs : shut d m (l ++ [x]) (piv d m l) l.length = true) (hb : beg d m l = true) :
    arch d m (l ++ [x]) = arch d m l ++ [atS l (l.length - 1)] ∧ piv d m (l ++ [x]) = l.length - 1 := by
  obtain ⟨h1, h2, h3, h4⟩ := compTo_inv d m l _ h
  have hb' : (compTo d m l l.length).2 ≠ l.length - 1 := by unfold beg piv at hb; simp at hb; omega
  have e : compTo d m (l ++ [x]) (l ++ [x]).length = keepI (l.length - 1) (compTo d m l l.length) := by
    rw [comp_len h]; unfold compStep; rw [if_neg (by omega), if_neg, if_pos]
    · exact hs
    · rw [atS_last, atS_snoc l x _ h1]; unfold piv at hq; omega
  unfold arch piv
  rw [e, keepI_other h2 hb']
  refine ⟨?_, rfl⟩
  simp only
  rw [choI_app, arch_old h]
  simp [arch, choI]
  exact held_old h
/-- It is accepted, or the first one after the pivot: nothing. -/
theorem open_step (h : 0 < l.length) (hq : x.q = (atS l (piv d m l)).q) (hs : shut d m (l ++ [x]) (piv d m l) l.length = false ∨ beg d m l = false) :
    arch d m (l ++ [x]) = arch d m l ∧ piv d m (l ++ [x]) = piv d m l := by
  obtain ⟨h1, h2, h3, h4⟩ := compTo_inv d m l _ h
  have e : compTo d m (l ++ [x]) (l ++ [x]).length = compTo d m l l.length := by
    rw [comp_len h]; unfold compStep; rw [if_neg (by omega), if_neg]
    · by_cases hs' : shut d m (l ++ [x]) (compTo d m l l.length).2 l.length = true
      · rw [if_pos hs']
        have hb : beg d m l = false := by
          rcases hs with hs | hs
          · unfold piv at hs; rw [hs] at hs'; cases hs'
          · exact hs
        exact keepI_same h2 (by unfold beg piv at hb; simp at hb; omega)
      · rw [if_neg hs']
    · rw [atS_last, atS_snoc l x _ h1]; unfold piv at hq; omega
  unfold arch piv
  rw [e]
  exact ⟨arch_old h, rfl⟩
/-- What is kept in the end. -/
theorem end_step (h : 0 < l.length) : choI l (compressed d m l) = arch d m l ++ (if beg d m l = true then [atS l (l.length - 1)] else []) := by
  obtain ⟨h1, h2, h3, h4⟩ := compTo_inv d m l _ h
  unfold compressed
  rw [if_neg (by omega)]
  by_cases hb : (compTo d m l l.length).2 = l.length - 1
  · rw [keepI_same h2 hb]
    have : beg d m l = false := by unfold beg piv; simp; omega
    rw [this]; simp [arch]
  · rw [keepI_other h2 hb]
    have : beg d m l = true := by unfold beg piv; simp; omega
    rw [this, if_pos rfl]
    simp only
    rw [choI_app]
    simp [arch, choI]
/-- A span's bounds after one more sample. -/
theorem isLow_snoc {p k : Nat} {s : Int × Int} (hk : k ≤ l.length) (h : IsLow d l p k s) : IsLow d (l ++ [x]) p k s := by
  obtain ⟨⟨j, a, b, rfl⟩, c⟩ := h
  have e : ∀ j, p < j → j < k → slopeI (l ++ [x]) p j (-d) = slopeI l p j (-d) := fun j a b => by unfold slopeI; rw [atS_snoc l x _ (by omega), atS_snoc l x _ (by omega)]
  exact ⟨⟨j, a, b, (e j a b).symm⟩, fun j a b => by rw [e j a b]; exact c j a b⟩
theorem isHigh_snoc {p k : Nat} {s : Int × Int} (hk : k ≤ l.length) (h : IsHigh d l p k s) : IsHigh d (l ++ [x]) p k s := by
  obtain ⟨⟨j, a, b, rfl⟩, c⟩ := h
  have e : ∀ j, p < j → j < k → slopeI (l ++ [x]) p j d = slopeI l p j d := fun j a b => by unfold slopeI; rw [atS_snoc l x _ (by omega), atS_snoc l x _ (by omega)]
  exact ⟨⟨j, a, b, (e j a b).symm⟩, fun j a b => by rw [e j a b]; exact c j a b⟩
end Go.Proofs.Ytmcojidaimeijaa
