/- Levels of retention as data: what is wrong with them, what they cost, and how they are made to fit. Mathematics alone. -/
import Derived.Test.YtefbkdbjfgccpaaChk
namespace Go.Proofs.Ytefbkdbjfgccpaa
set_option linter.unusedVariables false
set_option linter.unusedSimpArgs false

/-- Is n a step? -/
def stepB (n : Int) : Bool := inB n 1 86400000 && decide ((86400000 : Int) % n = 0)
/-- What is wrong with a level that follows another one (or none). -/
def lvErr (p : Option (Int × Int)) (x : Int × Int) : Int :=
  if (x.1 ≠ 0 ∧ stepB x.1 = false) ∨ inB x.2 1 345686400000 = false then 1 else
  match p with
  | none => if x.1 = 0 then 0 else 3
  | some y => if x.1 = 0 then 3 else if x.1 ≤ y.1 ∨ x.2 ≤ y.2 then 7 else if y.1 ≠ 0 ∧ x.1.tmod y.1 ≠ 0 then 16 else 0
def lvFrom : Option (Int × Int) → List (Int × Int) → Int
  | _, [] => 0
  | p, x :: l => if lvErr p x = 0 then lvFrom (some x) l else lvErr p x
def lvsErr (l : List (Int × Int)) : Int := if l = [] then 8 else if 6 < l.length then 2 else lvFrom none l
/-- The level before index j. -/
def lvPre (l : List (Int × Int)) (j : Nat) : Option (Int × Int) := if j = 0 then none else l[j - 1]?

theorem lvFrom_step {l : List (Int × Int)} {j : Nat} (h : j < l.length) : lvFrom (lvPre l j) (l.drop j) = if lvErr (lvPre l j) l[j] = 0 then lvFrom (lvPre l (j + 1)) (l.drop (j + 1)) else lvErr (lvPre l j) l[j] := by
  rw [List.drop_eq_getElem_cons h]
  have h1 : lvPre l (j + 1) = some l[j] := by simp [lvPre, h]
  rw [h1]; rfl
theorem lvFrom_end (l : List (Int × Int)) : lvFrom (lvPre l l.length) (l.drop l.length) = 0 := by rw [List.drop_length]; rfl

/-- A level that can be there. -/
def LvOk (x : Int × Int) : Prop := (x.1 = 0 ∨ 1 ≤ x.1 ∧ x.1 ≤ 86400000) ∧ 1 ≤ x.2 ∧ x.2 ≤ 345686400000
theorem stepB_range {n : Int} (h : stepB n = true) : 1 ≤ n ∧ n ≤ 86400000 := by
  simp only [stepB, Bool.and_eq_true] at h
  exact inB_true.1 h.1
theorem lvErr_ok {p : Option (Int × Int)} {x : Int × Int} (h : lvErr p x = 0) : LvOk x := by
  unfold lvErr at h
  split at h
  · omega
  · rename_i hn
    refine ⟨?_, ?_⟩
    · by_cases h0 : x.1 = 0
      · exact .inl h0
      · refine .inr (stepB_range ?_)
        cases hs : stepB x.1 with
        | true => rfl
        | false => exact absurd (.inl ⟨h0, hs⟩) hn
    · cases hs : inB x.2 1 345686400000 with
      | true => exact inB_true.1 hs
      | false => exact absurd (.inr hs) hn
theorem lvErr_more {y x : Int × Int} (h : lvErr (some y) x = 0) : y.2 < x.2 := by
  unfold lvErr at h
  split at h
  · omega
  · simp only at h
    split at h
    · omega
    · split at h
      · omega
      · rename_i hn; simp only [not_or, Int.not_le] at hn; exact hn.2
theorem lvFrom_ok : ∀ (l : List (Int × Int)) (p : Option (Int × Int)), lvFrom p l = 0 → (∀ x ∈ l, LvOk x) ∧ (∀ y, p = some y → ∀ (h : 0 < l.length), y.2 < l[0].2) ∧ ∀ i (h : i + 1 < l.length), l[i].2 < l[i + 1].2
  | [], _, _ => ⟨fun x hx => absurd hx (by simp), fun y _ h => absurd h (by simp), fun i h => absurd h (by simp)⟩
  | x :: l, p, h => by
    unfold lvFrom at h
    split at h
    · rename_i he
      obtain ⟨h1, h2, h3⟩ := lvFrom_ok l (some x) h
      refine ⟨fun y hy => ?_, fun y hy _ => by subst hy; exact lvErr_more he, fun i hi => ?_⟩
      · rcases List.mem_cons.1 hy with rfl | hy
        · exact lvErr_ok he
        · exact h1 y hy
      · cases i with
        | zero => exact h2 x rfl (by simpa using hi)
        | succ i => exact h3 i (by simpa using hi)
    · rename_i he; exact absurd h he

/-- Right levels. -/
structure GoodL (l : List (Int × Int)) : Prop where
  ok : ∀ x ∈ l, LvOk x
  up : ∀ i (h : i + 1 < l.length), l[i].2 < l[i + 1].2
  few : l.length ≤ 6
theorem goodL {l : List (Int × Int)} (h : lvsErr l = 0) : GoodL l := by
  unfold lvsErr at h
  split at h
  · omega
  · split at h
    · omega
    · obtain ⟨h1, _, h3⟩ := lvFrom_ok l none h
      exact ⟨h1, h3, by omega⟩

/-- What a level costs. -/
def lvCost (rate : Int) (x : Int × Int) : Int := if x.1 = 0 then (x.2 * rate + 3600000 - 1).tdiv 3600000 else (x.2 + x.1 - 1).tdiv x.1 + 1
def lvSum (rate : Int) : List (Int × Int) → Int
  | [] => 0
  | x :: l => lvCost rate x + lvSum rate l
/-- The greatest keep that costs at most q. -/
def lng (rate s q : Int) : Int := if s = 0 then (q * 3600000).tdiv rate else (q - 1) * s

theorem lvSum_append (rate : Int) (a b : List (Int × Int)) : lvSum rate (a ++ b) = lvSum rate a + lvSum rate b := by
  induction a with
  | nil => simp [lvSum]
  | cons x a ih => simp only [List.cons_append, lvSum, ih]; omega

theorem up_le {a b q : Int} (hb : 0 < b) (ha : 0 ≤ a) : (a + b - 1).tdiv b ≤ q ↔ a ≤ q * b := by
  rw [Int.tdiv_eq_ediv_of_nonneg (by omega)]
  have h := Int.ediv_lt_iff_lt_mul (a := a + b - 1) (b := q + 1) hb
  rw [Int.add_mul, Int.one_mul] at h
  constructor
  · intro h1; have := h.1 (by omega); omega
  · intro h1; have := h.2 (by omega); omega

theorem cost_le {rate s k q : Int} (hr : 1 ≤ rate) (hs : s = 0 ∨ 1 ≤ s) (hk : 1 ≤ k) (hq : 0 ≤ q) : lvCost rate (s, k) ≤ q ↔ k ≤ lng rate s q := by
  unfold lvCost lng
  simp only
  by_cases h0 : s = 0
  · rw [if_pos h0, if_pos h0, up_le (by omega) (Int.mul_nonneg (by omega) (by omega)), Int.tdiv_eq_ediv_of_nonneg (by omega), Int.le_ediv_iff_mul_le (by omega)]
  · have h1 : 1 ≤ s := by omega
    rw [if_neg h0, if_neg h0]
    have h2 := up_le (a := k) (b := s) (q := q - 1) (by omega) (by omega)
    constructor
    · intro h3; exact h2.1 (by omega)
    · intro h3; have := h2.2 h3; omega
theorem cost_bounds {rate : Int} {x : Int × Int} (hr : 1 ≤ rate ∧ rate ≤ 1000000) (hx : LvOk x) : 1 ≤ lvCost rate x ∧ lvCost rate x ≤ 400000000000000000 := by
  obtain ⟨h1, h2, h3⟩ := hx
  unfold lvCost
  by_cases h0 : x.1 = 0
  · rw [if_pos h0, Int.tdiv_eq_ediv_of_nonneg (by have := Int.mul_nonneg (show 0 ≤ x.2 from by omega) (show 0 ≤ rate from by omega); omega)]
    have h4 : 1 * 1 ≤ x.2 * rate := Int.mul_le_mul h2 hr.1 (by omega) (by omega)
    have h5 : x.2 * rate ≤ 345686400000 * 1000000 := Int.mul_le_mul h3 hr.2 (by omega) (by omega)
    generalize x.2 * rate = P at *
    omega
  · have h4 : 1 ≤ x.1 := by omega
    rw [if_neg h0, Int.tdiv_eq_ediv_of_nonneg (by omega)]
    have h5 := Int.ediv_nonneg (show 0 ≤ x.2 + x.1 - 1 from by omega) (show 0 ≤ x.1 from by omega)
    have h6 := Int.ediv_le_self x.1 (show 0 ≤ x.2 + x.1 - 1 from by omega)
    omega
theorem lng_small {rate s : Int} (hr : 1 ≤ rate) (hs : s = 0 ∨ 1 ≤ s) : lng rate s 0 ≤ 0 := by
  unfold lng
  split
  · simp
  · omega

theorem getD_at {l : List (Int × Int)} {j : Nat} (h : j < l.length) : l.getD j (0, 0) = l[j] := by
  rw [List.getD_eq_getElem?_getD, List.getElem?_eq_getElem h]; rfl
theorem lvSum_set (rate : Int) (y : Int × Int) : ∀ (l : List (Int × Int)) (j : Nat), j < l.length → lvSum rate (l.set j y) = lvSum rate l - lvCost rate (l.getD j (0, 0)) + lvCost rate y
  | [], _, h => absurd h (by simp)
  | x :: l, 0, _ => by simp only [List.set_cons_zero, lvSum, List.getD_cons_zero]; omega
  | x :: l, j + 1, h => by
    simp only [List.set_cons_succ, lvSum, List.getD_cons_succ, lvSum_set rate y l j (by simpa using h)]; omega
theorem lvSum_bounds {rate : Int} (hr : 1 ≤ rate ∧ rate ≤ 1000000) : ∀ (l : List (Int × Int)), (∀ x ∈ l, LvOk x) → (l.length : Int) ≤ lvSum rate l ∧ lvSum rate l ≤ 400000000000000000 * (l.length : Int)
  | [], _ => by simp [lvSum]
  | x :: l, h => by
    have h1 := cost_bounds hr (h x List.mem_cons_self)
    have h2 := lvSum_bounds hr l (fun y hy => h y (List.mem_cons_of_mem _ hy))
    simp only [lvSum, List.length_cons]
    omega
theorem cost_sum {rate : Int} (hr : 1 ≤ rate ∧ rate ≤ 1000000) : ∀ (l : List (Int × Int)) (j : Nat), j < l.length → (∀ x ∈ l, LvOk x) → lvCost rate (l.getD j (0, 0)) ≤ lvSum rate l
  | [], _, h, _ => absurd h (by simp)
  | x :: l, 0, _, h => by
    have h2 := lvSum_bounds hr l (fun y hy => h y (List.mem_cons_of_mem _ hy))
    simp only [lvSum, List.getD_cons_zero]; omega
  | x :: l, j + 1, h, hx => by
    have h1 := cost_bounds hr (hx x List.mem_cons_self)
    have h2 := cost_sum hr l j (by simpa using h) (fun y hy => hx y (List.mem_cons_of_mem _ hy))
    simp only [lvSum, List.getD_cons_succ]; omega

/-- The least keep of level j. -/
def lst (F : List (Int × Int)) (j : Nat) : Int := if j = 0 then 1 else (F.getD (j - 1) (0, 0)).2 + 1
def fitK (rate quota : Int) (F : List (Int × Int)) (j : Nat) : Int := max (lst F j) (lng rate (F.getD j (0, 0)).1 (max (quota - (lvSum rate F - lvCost rate (F.getD j (0, 0)))) 0))
def fitS (rate quota : Int) (F : List (Int × Int)) (j : Nat) : List (Int × Int) := if lvSum rate F ≤ quota then F else F.set j ((F.getD j (0, 0)).1, fitK rate quota F j)
def fitTo (rate quota : Int) (l : List (Int × Int)) : Nat → List (Int × Int)
  | 0 => l
  | j + 1 => fitS rate quota (fitTo rate quota l j) j

theorem fit_stop {rate quota : Int} {l : List (Int × Int)} {j : Nat} (h : lvSum rate (fitTo rate quota l j) ≤ quota) : ∀ d, fitTo rate quota l (j + d) = fitTo rate quota l j
  | 0 => rfl
  | d + 1 => by
    have ih := fit_stop h d
    show fitS rate quota (fitTo rate quota l (j + d)) (j + d) = _
    rw [ih, fitS, if_pos h]

/-- What holds of the levels when the first j of them have been made to fit. -/
structure FitI (l F : List (Int × Int)) (j : Nat) : Prop where
  len : F.length = l.length
  ok : ∀ x ∈ F, LvOk x
  step : ∀ i, (F.getD i (0, 0)).1 = (l.getD i (0, 0)).1
  same : ∀ i, j ≤ i → F.getD i (0, 0) = l.getD i (0, 0)
  less : ∀ i, (F.getD i (0, 0)).2 ≤ (l.getD i (0, 0)).2

theorem mem_getD {l : List (Int × Int)} {j : Nat} (h : j < l.length) : l.getD j (0, 0) ∈ l := by rw [getD_at h]; exact List.getElem_mem h
theorem lst_le {l F : List (Int × Int)} {j : Nat} (hl : GoodL l) (hF : FitI l F j) (hj : j < l.length) : 1 ≤ lst F j ∧ lst F j ≤ (F.getD j (0, 0)).2 := by
  have hok := hF.ok _ (mem_getD (by rw [hF.len]; exact hj))
  unfold lst
  split
  · exact ⟨by omega, hok.2.1⟩
  · rename_i h0
    have h1 := hF.ok _ (mem_getD (l := F) (j := j - 1) (by rw [hF.len]; omega))
    have h2 := hF.less (j - 1)
    have h3 := hl.up (j - 1) (by omega)
    rw [hF.same j (Nat.le_refl _)]
    rw [getD_at (l := l) (by omega)] at h2
    rw [getD_at hj]
    have h4 : l[j - 1 + 1]'(by omega) = l[j] := by congr 1; omega
    rw [h4] at h3
    exact ⟨by have := h1.2.1; omega, by omega⟩
/-- Does keep k of level j fit? -/
theorem fits_iff {rate quota k : Int} {l F : List (Int × Int)} {j : Nat} (hr : 1 ≤ rate ∧ rate ≤ 1000000) (hF : FitI l F j) (hj : j < l.length) (hk : 1 ≤ k) (hk2 : k ≤ 345686400000) :
    lvSum rate (F.set j ((F.getD j (0, 0)).1, k)) ≤ quota ↔ k ≤ lng rate (F.getD j (0, 0)).1 (max (quota - (lvSum rate F - lvCost rate (F.getD j (0, 0)))) 0) := by
  have hj' : j < F.length := by rw [hF.len]; exact hj
  have hok := hF.ok _ (mem_getD hj')
  have hs : (F.getD j (0, 0)).1 = 0 ∨ 1 ≤ (F.getD j (0, 0)).1 := by have := hok.1; omega
  have hc := (cost_bounds (rate := rate) (x := ((F.getD j (0, 0)).1, k)) hr ⟨hok.1, hk, hk2⟩).1
  rw [lvSum_set rate _ F j hj']
  generalize lvSum rate F - lvCost rate (F.getD j (0, 0)) = O at *
  by_cases h0 : 0 ≤ quota - O
  · rw [show max (quota - O) 0 = quota - O from by omega, ← cost_le hr.1 hs hk h0]
    omega
  · rw [show max (quota - O) 0 = 0 from by omega]
    have := lng_small (rate := rate) hr.1 hs
    omega
theorem fitK_le {rate quota : Int} {l F : List (Int × Int)} {j : Nat} (hr : 1 ≤ rate ∧ rate ≤ 1000000) (hl : GoodL l) (hF : FitI l F j) (hj : j < l.length) (hq : ¬ lvSum rate F ≤ quota) :
    lst F j ≤ fitK rate quota F j ∧ fitK rate quota F j ≤ (F.getD j (0, 0)).2 ∧ lng rate (F.getD j (0, 0)).1 (max (quota - (lvSum rate F - lvCost rate (F.getD j (0, 0)))) 0) < (F.getD j (0, 0)).2 := by
  have hj' : j < F.length := by rw [hF.len]; exact hj
  have hok := hF.ok _ (mem_getD hj')
  have h1 := fits_iff (quota := quota) hr hF hj hok.2.1 hok.2.2
  have h2 : F.set j ((F.getD j (0, 0)).1, (F.getD j (0, 0)).2) = F := by
    rw [show ((F.getD j (0, 0)).1, (F.getD j (0, 0)).2) = F.getD j (0, 0) from rfl, getD_at hj']
    exact List.set_getElem_self hj'
  rw [h2] at h1
  have h3 := lst_le hl hF hj
  unfold fitK
  omega
theorem fitI_step {rate quota : Int} {l F : List (Int × Int)} {j : Nat} (hr : 1 ≤ rate ∧ rate ≤ 1000000) (hl : GoodL l) (hF : FitI l F j) (hj : j < l.length) : FitI l (fitS rate quota F j) (j + 1) := by
  unfold fitS
  split
  · exact ⟨hF.len, hF.ok, hF.step, fun i hi => hF.same i (by omega), hF.less⟩
  · rename_i hq
    have hj' : j < F.length := by rw [hF.len]; exact hj
    have hok := hF.ok _ (mem_getD hj')
    have h1 := fitK_le hr hl hF hj hq
    have h2 := lst_le hl hF hj
    have hne : ∀ i, i ≠ j → (F.set j ((F.getD j (0, 0)).1, fitK rate quota F j)).getD i (0, 0) = F.getD i (0, 0) := fun i hi => by
      simp [List.getD_eq_getElem?_getD, List.getElem?_set_ne (Ne.symm hi)]
    have heq : (F.set j ((F.getD j (0, 0)).1, fitK rate quota F j)).getD j (0, 0) = ((F.getD j (0, 0)).1, fitK rate quota F j) := by
      rw [getD_at (by rw [List.length_set]; exact hj')]; simp
    refine ⟨by rw [List.length_set]; exact hF.len, fun x hx => ?_, fun i => ?_, fun i hi => ?_, fun i => ?_⟩
    · rcases List.mem_or_eq_of_mem_set hx with h | h
      · exact hF.ok x h
      · rw [h]; exact ⟨hok.1, by simp only; omega, by have := hok.2.2; simp only; omega⟩
    · by_cases hi : i = j
      · subst hi; rw [heq]; exact hF.step i
      · rw [hne i hi]; exact hF.step i
    · rw [hne i (by omega)]; exact hF.same i (by omega)
    · by_cases hi : i = j
      · subst hi; rw [heq]; have := hF.less i; simp only; omega
      · rw [hne i hi]; exact hF.less i
theorem fitI_zero {l : List (Int × Int)} (hl : GoodL l) : FitI l l 0 := ⟨rfl, hl.ok, fun _ => rfl, fun _ _ => rfl, fun _ => Int.le_refl _⟩
theorem fitI_to {rate quota : Int} {l : List (Int × Int)} (hr : 1 ≤ rate ∧ rate ≤ 1000000) (hl : GoodL l) : ∀ j, j ≤ l.length → FitI l (fitTo rate quota l j) j
  | 0, _ => fitI_zero hl
  | j + 1, h => fitI_step hr hl (fitI_to hr hl j (by omega)) (by omega)
/-- What halving ends with. -/
theorem halved {rate quota low high : Int} {l F : List (Int × Int)} {j : Nat} (hr : 1 ≤ rate ∧ rate ≤ 1000000) (hl : GoodL l) (hF : FitI l F j) (hj : j < l.length)
    (h1 : lst F j ≤ low) (h2 : low < high) (h3 : ¬ low < high - 1) (h4 : high ≤ (F.getD j (0, 0)).2) (h5 : ¬ lvSum rate (F.set j ((F.getD j (0, 0)).1, high)) ≤ quota)
    (h6 : low = lst F j ∨ lvSum rate (F.set j ((F.getD j (0, 0)).1, low)) ≤ quota) : low = fitK rate quota F j := by
  have hok := hF.ok _ (mem_getD (l := F) (j := j) (by rw [hF.len]; exact hj))
  have h0 := lst_le hl hF hj
  have e := hok.2.2
  rw [fits_iff hr hF hj (by omega) (by omega)] at h5
  rw [fits_iff hr hF hj (by omega) (by omega)] at h6
  unfold fitK
  omega
/-- Where nothing can be reduced, nothing is. -/
theorem fit_none {rate quota : Int} {l F : List (Int × Int)} {j : Nat} (hr : 1 ≤ rate ∧ rate ≤ 1000000) (hl : GoodL l) (hF : FitI l F j) (hj : j < l.length) (hq : ¬ lvSum rate F ≤ quota)
    (h : (F.getD j (0, 0)).2 ≤ lst F j) : fitS rate quota F j = F := by
  have h1 := fitK_le hr hl hF hj hq
  have hj' : j < F.length := by rw [hF.len]; exact hj
  unfold fitS
  rw [if_neg hq, show fitK rate quota F j = (F.getD j (0, 0)).2 from by omega, show ((F.getD j (0, 0)).1, (F.getD j (0, 0)).2) = F.getD j (0, 0) from rfl, getD_at hj']
  exact List.set_getElem_self hj'
end Go.Proofs.Ytefbkdbjfgccpaa
