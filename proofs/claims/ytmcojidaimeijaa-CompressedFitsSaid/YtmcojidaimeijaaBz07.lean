import Derived.Test.YtmcojidaimeijaaBz02
import Derived.Test.YtmcojidaimeijaaBz06
import Derived.Test.YtmcojidaimeijaaBz05
import Derived.Test.YtmcojidaimeijaaBz04
import Derived.Test.YtmcojidaimeijaaSlim
import Derived.OwnWalk
import Derived.StillTailTactics
import Derived.Test.YtmcojidaimeijaaApp
/- The mathematics of CompressedFits: what Compress archives fits; the minimum fits, and has no more samples; what fits is off by at most the deviation. -/

namespace Go.Proofs.Ytmcojidaimeijaa
open Go.RowKit
set_option linter.unusedVariables false
set_option linter.unusedSimpArgs false

theorem pairs_snoc {d m : Int} {l : List Smp} (ks : List Int) (p i : Nat) (h : ks.getLast? = some (p : Int)) : pairsB d m l (ks ++ [(i : Int)]) = (pairsB d m l ks && nextB d m l p i) := by
  induction ks with
  | nil => cases h
  | cons a r ih =>
    cases r with
    | nil =>
      simp only [List.getLast?_singleton, Option.some.injEq] at h
      subst h
      simp [pairsB]
    | cons b r =>
      have h2 := ih (by simpa using h)
      simp only [List.cons_append, pairsB] at h2 ⊢
      rw [h2, Bool.and_assoc]
theorem head_snoc {ks : List Int} {x : Int} (h : ks.head? = some 0) : (ks ++ [x]).head? = some 0 := by
  cases ks with
  | nil => cases h
  | cons a r => simpa using h
/-- What is kept is right so far. -/
structure CfK (d m : Int) (l : List Smp) (s : List Int × Nat) : Prop where
  pb : pairsB d m l s.1 = true
  hd : s.1.head? = some 0
  la : s.1.getLast? = some (s.2 : Int)
theorem CfK.keep {d m : Int} {l : List Smp} {s : List Int × Nat} {i : Nat} (h : CfK d m l s) (hn : s.2 = i ∨ nextB d m l s.2 i = true) : CfK d m l (keepI i s) ∧ (keepI i s).2 = i := by
  by_cases he : s.2 = i
  · rw [keepI_same h.la he]
    exact ⟨h, he⟩
  · rw [keepI_other h.la he]
    have hn2 := hn.resolve_left he
    exact ⟨⟨by simp only; rw [pairs_snoc s.1 s.2 i h.la, h.pb, hn2]; rfl, head_snoc h.hd, by simp⟩, rfl⟩
theorem next_adj (d m : Int) (l : List Smp) (a : Nat) : nextB d m l a (a + 1) = true := by unfold nextB; simp
/-- After i samples: what is kept is right, and the last sample can be kept next to the pivot. -/
theorem comp_ok (d m : Int) (l : List Smp) (i : Nat) : CfK d m l (compTo d m l (i + 1)) ∧ sameQ l (compTo d m l (i + 1)).2 i = true ∧ ((compTo d m l (i + 1)).2 = i ∨ nextB d m l (compTo d m l (i + 1)).2 i = true) := by
  induction i with
  | zero =>
    have e : compTo d m l 1 = ([0], 0) := by simp [compTo, compStep, keepI]
    rw [e]
    exact ⟨⟨rfl, rfl, rfl⟩, sameQ_self l 0, .inl rfl⟩
  | succ i ih =>
    obtain ⟨h1, h2, h3⟩ := ih
    have hlt := (compTo_inv d m l (i + 1) (by omega)).1
    rw [show compTo d m l (i + 1 + 1) = compStep d m l (i + 1) (compTo d m l (i + 1)) from rfl]
    generalize compTo d m l (i + 1) = s at *
    have hk := h1.keep h3
    unfold compStep
    rw [if_neg (by omega), show i + 1 - 1 = i by omega]
    by_cases hq : (atS l (i + 1)).q = (atS l s.2).q
    · rw [if_neg (fun h => h hq)]
      have hqi : (atS l (i + 1)).q = (atS l i).q := by rw [hq]; exact (sameQ_iff.1 h2 i (by omega) (Nat.le_refl _)).symm
      by_cases hs : shut d m l s.2 (i + 1) = true
      · rw [if_pos hs]
        refine ⟨hk.1, ?_, .inr ?_⟩
        · rw [hk.2]
          refine sameQ_iff.2 fun j h4 h5 => ?_
          rcases Nat.lt_or_ge i j with h6 | h6
          · rw [show j = i + 1 by omega]; exact hqi
          · rw [show j = i by omega]
        · rw [hk.2]; exact next_adj d m l i
      · rw [if_neg hs]
        have hsq : sameQ l s.2 (i + 1) = true := sameQ_iff.2 fun j h4 h5 => by
          rcases Nat.lt_or_ge i j with h6 | h6
          · rw [show j = i + 1 by omega]; exact hq
          · exact sameQ_iff.1 h2 j h4 h6
        refine ⟨h1, hsq, .inr ?_⟩
        unfold nextB
        rw [hsq]
        simp [hs]
        omega
    · rw [if_pos hq]
      have hk2 := hk.1.keep (i := i + 1) (.inr (by rw [hk.2]; exact next_adj d m l i))
      refine ⟨hk2.1, ?_, .inl hk2.2⟩
      rw [hk2.2]
      exact sameQ_self l (i + 1)
/-- What Compress archives fits. -/
theorem comp_fits (d m : Int) (l : List Smp) : fitsB d m l (compressed d m l) = true := by
  unfold fitsB compressed
  by_cases h0 : l.length = 0
  · rw [if_pos h0]
  · rw [if_neg h0, if_neg h0]
    obtain ⟨n, hn⟩ : ∃ n, l.length = n + 1 := ⟨l.length - 1, by omega⟩
    obtain ⟨h1, h2, h3⟩ := comp_ok d m l n
    rw [hn, show n + 1 - 1 = n by omega]
    have hk := h1.keep h3
    have hla := hk.1.la
    rw [hk.2] at hla
    rw [hk.1.hd, hla, hk.1.pb]
    simp

/-- The search finds something that fits, with no more indices than any other. -/
theorem minTo_short (F : List Nat → Bool) (n : Nat) (hF0 : F [] = false) (q : Nat) (hF : F (bitsL q n) = true) (k : Nat) (hk : q < k) :
    minTo F n k ≠ [] ∧ (minTo F n k).length ≤ (bitsL q n).length := by
  induction k with
  | zero => omega
  | succ k ih =>
    simp only [minTo]
    by_cases hc : (minTo F n k = [] ∨ ltK (bitsL k n) (minTo F n k) = true) ∧ F (bitsL k n) = true
    · rw [if_pos hc]
      have hne : bitsL k n ≠ [] := fun e => by rw [e, hF0] at hc; cases hc.2
      by_cases he : q = k
      · subst he; exact ⟨hne, Nat.le_refl _⟩
      · obtain ⟨h1, h2⟩ := ih (by omega)
        refine ⟨hne, ?_⟩
        rcases hc.1 with h3 | h3
        · exact absurd h3 h1
        · simp only [ltK, Bool.or_eq_true, decide_eq_true_eq, Bool.and_eq_true] at h3
          omega
    · rw [if_neg hc]
      by_cases he : q = k
      · subst he
        have h1 : ¬ (minTo F n q = [] ∨ ltK (bitsL q n) (minTo F n q) = true) := fun h => hc ⟨h, hF⟩
        refine ⟨fun e => h1 (.inl e), ?_⟩
        have h2 : ltK (bitsL q n) (minTo F n q) ≠ true := fun h => h1 (.inr h)
        have h3 : ¬ (bitsL q n).length < (minTo F n q).length := fun h => h2 (by simp [ltK, h])
        omega
      · exact ih (by omega)
theorem intsN_rises {c : List Nat} (h : c.Pairwise (· < ·)) : (intsN c).Pairwise (· < ·) := by
  unfold intsN
  rw [List.pairwise_map]
  exact h.imp fun h => by omega
theorem intsN_mem {c : List Nat} {n : Nat} (h : ∀ x ∈ c, x < n) : ∀ k ∈ intsN c, 0 ≤ k ∧ k < (n : Int) := by
  intro k hk
  obtain ⟨x, hx, rfl⟩ := List.mem_map.1 hk
  have := h x hx
  omega
theorem ints_kept {l : List Smp} (hS : serErr l = 0) {ks : List Int} (hr : ks.Pairwise (· < ·)) (hm : ∀ k ∈ ks, 0 ≤ k ∧ k < (l.length : Int)) : keptErr l ks = 0 := by
  have hl := rise_long (n := (l.length : Int)) ks 0 hr hm (by omega)
  unfold keptErr idxErr
  rw [if_neg (by simp [hS]), if_neg (by omega)]
  exact idxFrom_zero _ _ none hr hm (fun q hq => by cases hq)
/-- The minimum fits, its indices are right, and there are no more of them than Compress archives. -/
theorem min_good {d m : Int} {l : List Smp} (hS : serErr l = 0) (hE : minE d m l = 0) : keptErr l (minR d m l) = 0 ∧ fitsB d m l (minR d m l) = true ∧ (minR d m l).length ≤ (compressed d m l).length := by
  unfold minR
  rw [if_pos hE]
  by_cases h0 : l.length = 0
  · have e : minTo (fun c => fitsB d m l (intsN c)) l.length (2 ^ l.length) = [] := by rw [h0]; simp [minTo, bitsL]
    rw [e]
    refine ⟨ints_kept hS (by simp [intsN]) (fun k hk => by simp [intsN] at hk), ?_, by simp [intsN]⟩
    unfold fitsB
    rw [if_pos h0]
  · have hck := (kept_good (cmp_kept (d := d) (m := m) hS)).2.1
    have hok := idxErr_ok hck
    have hcn : intsN ((compressed d m l).map Int.toNat) = compressed d m l := by
      unfold intsN
      rw [List.map_map]
      conv => rhs; rw [← List.map_id (compressed d m l)]
      refine List.map_congr_left fun k hk => ?_
      have := hok.rng k hk
      simp only [Function.comp, id_eq]
      omega
    have hrise : ((compressed d m l).map Int.toNat).Pairwise (· < ·) := by
      rw [List.pairwise_map]
      refine List.Pairwise.imp_of_mem (fun {a b} ha hb h => ?_) hok.rise
      have := hok.rng a ha
      have := hok.rng b hb
      omega
    have hlt : ∀ x ∈ (compressed d m l).map Int.toNat, x < l.length := fun x hx => by
      obtain ⟨k, hk, rfl⟩ := List.mem_map.1 hx
      have := hok.rng k hk
      omega
    obtain ⟨q, hq, hb⟩ := bitsL_all l.length _ hrise hlt
    have hF0 : (fun c => fitsB d m l (intsN c)) [] = false := by
      simp only [intsN, fitsB]
      rw [if_neg h0]
      simp
    have hF : (fun c => fitsB d m l (intsN c)) (bitsL q l.length) = true := by
      simp only
      rw [hb, hcn]
      exact comp_fits d m l
    obtain ⟨h1, h2⟩ := minTo_short (fun c => fitsB d m l (intsN c)) l.length hF0 q hF (2 ^ l.length) hq
    rcases minTo_fits (fun c => fitsB d m l (intsN c)) l.length (2 ^ l.length) with h3 | ⟨p, h3, h4⟩
    · exact absurd h3 h1
    · rw [h3] at h2 ⊢
      refine ⟨ints_kept hS (intsN_rises (bitsL_rises p _)) (intsN_mem (bitsL_lt p _)), h4, ?_⟩
      rw [hb] at h2
      simpa [intsN] using h2

theorem pairs_at {d m : Int} {l : List Smp} {ks : List Int} (h : pairsB d m l ks = true) (p : Nat) (hp : p + 1 < ks.length) : nextB d m l (ks[p]'(by omega)).toNat ks[p + 1].toNat = true := by
  have hd : ∀ j, j < ks.length → pairsB d m l (ks.drop j) = true := fun j => by
    induction j with
    | zero => intro _; exact h
    | succ j ih =>
      intro hj
      have h1 := ih (by omega)
      rw [pairsB_drop d m l ks j hj, Bool.and_eq_true] at h1
      exact h1.2
  have h1 := hd p (by omega)
  rw [pairsB_drop d m l ks p hp, Bool.and_eq_true] at h1
  exact h1.1
/-- What fits is off by at most the deviation. -/
theorem off_fits {d m : Int} {l : List Smp} {ks : List Int} (hd : 0 ≤ d) (hK : keptErr l ks = 0) (hf : fitsB d m l ks = true) (i : Nat) (hi : i < l.length) (hh : hasI l (choOf l ks) i = true) : (offV l (choOf l ks) i).1 ≤ d * (offV l (choOf l ks) i).2 := by
  obtain ⟨hS, hidx, hin, hle, hr, hR⟩ := kept_good hK
  have hrl := serErr_rise hS
  have hpb : pairsB d m l ks = true := by
    unfold fitsB at hf
    rw [if_neg (by omega), Bool.and_eq_true] at hf
    exact hf.2
  simp only [hasI, Bool.and_eq_true, decide_eq_true_eq] at hh
  obtain ⟨hB, hq⟩ := hh
  have hat : ∀ p, (hp : p < ks.length) → atS (choOf l ks) p = atS l (ks[p]).toNat := fun p hp => by
    simp [atS, List.getD_eq_getElem?_getD, choOf_get l ks p hp]
  have hkl := choOf_length l ks
  have hin2 : ∀ p, (hp : p < ks.length) → (ks[p]).toNat < l.length := fun p hp => by have := hin p hp; omega
  unfold offV diffF
  unfold reconB at hB
  unfold reconV
  obtain ⟨V, hV⟩ := Option.isSome_iff_exists.1 hB
  rw [hV]
  simp only [Option.getD_some]
  unfold reconOf at hV
  by_cases c1 : posF (choOf l ks) (atS l i).t = (choOf l ks).length ∨ (atS (choOf l ks) (posF (choOf l ks) (atS l i).t)).q = 2
  · rw [if_pos c1] at hV; cases hV
  · rw [if_neg c1] at hV
    have hple := posF_le (choOf l ks) (atS l i).t
    obtain ⟨p, hp⟩ : ∃ p, p = posF (choOf l ks) (atS l i).t := ⟨_, rfl⟩
    rw [← hp] at hV c1 hple
    have hpl : p < ks.length := by
      have : p ≠ (choOf l ks).length := fun e => c1 (.inl e)
      omega
    have hpq : (atS (choOf l ks) p).q ≠ 2 := fun e => c1 (.inr e)
    have hbge := (posF_iff (choOf l ks) (atS l i).t none hr p (by omega)).2 (by omega)
    by_cases c2 : (atS (choOf l ks) p).t = (atS l i).t
    · rw [if_pos c2] at hV
      cases hV
      rw [hat p hpl] at c2 ⊢
      have hji : (ks[p]).toNat = i := by
        rcases Nat.lt_trichotomy (ks[p]).toNat i with h | h | h
        · have := rise_ltA hrl _ i h hi; omega
        · exact h
        · have := rise_ltA hrl i _ h (hin2 p hpl); omega
      rw [hji]
      simp [dist]
      exact hd
    · rw [if_neg c2] at hV
      by_cases c3 : p = 0 ∨ (atS (choOf l ks) (p - 1)).q = 2
      · rw [if_pos c3] at hV; cases hV
      · rw [if_neg c3] at hV
        cases hV
        obtain ⟨r, rfl⟩ : ∃ r, p = r + 1 := ⟨p - 1, by have : p ≠ 0 := fun e => c3 (.inl e); omega⟩
        have halt : (atS (choOf l ks) r).t < (atS l i).t := by
          have := posF_iff (choOf l ks) (atS l i).t none hr r (by omega)
          rw [← hp] at this
          omega
        rw [show r + 1 - 1 = r by omega]
        have hnx := pairs_at hpb r hpl
        rw [hat r (by omega)] at halt ⊢
        rw [hat (r + 1) hpl] at hbge c2 hpq ⊢
        have hai : (ks[r]'(by omega)).toNat < i := by
          rcases Nat.lt_or_ge (ks[r]'(by omega)).toNat i with h | h
          · exact h
          · rcases Nat.lt_or_ge i (ks[r]'(by omega)).toNat with h2 | h2
            · have := rise_ltA hrl i _ h2 (hin2 r (by omega)); omega
            · rw [show (ks[r]'(by omega)).toNat = i by omega] at halt; omega
        have hib : i < (ks[r + 1]).toNat := by
          rcases Nat.lt_or_ge i (ks[r + 1]).toNat with h | h
          · exact h
          · rcases Nat.lt_or_ge (ks[r + 1]).toNat i with h2 | h2
            · have := rise_ltA hrl _ i h2 hi; omega
            · exact absurd (by rw [show (ks[r + 1]).toNat = i by omega]) c2
        have hbl := hin2 (r + 1) hpl
        generalize (ks[r]'(by omega)).toNat = a at *
        generalize (ks[r + 1]).toNat = b at *
        unfold nextB at hnx
        simp only [Bool.and_eq_true, Bool.or_eq_true, decide_eq_true_eq, Bool.not_eq_true'] at hnx
        have hsh := (hnx.2.resolve_left (by omega)).2
        unfold shut at hsh
        simp only [Bool.or_eq_false_iff, Bool.and_eq_false_iff, decide_eq_false_iff_not, Bool.not_eq_false'] at hsh
        have hcov := cov_true.1 (hsh.2.resolve_left (fun h => h hpq)) i hai hib
        have hab := rise_ltA hrl a b (by omega) hbl
        unfold lineAt
        obtain ⟨h0, _, _⟩ := frac_parts ((atS l a).v * ((atS l b).t - (atS l a).t) + ((atS l b).v - (atS l a).v) * ((atS l i).t - (atS l a).t)) ((atS l b).t - (atS l a).t) (by omega)
        obtain ⟨N, hN⟩ : ∃ N, N = (atS l a).v * ((atS l b).t - (atS l a).t) + ((atS l b).v - (atS l a).v) * ((atS l i).t - (atS l a).t) := ⟨_, rfl⟩
        obtain ⟨D, hD⟩ : ∃ D, D = (atS l b).t - (atS l a).t := ⟨_, rfl⟩
        have hline : lineI (atS l a) (atS l b) (atS l i) = N - (atS l i).v * D := by
          unfold lineI
          rw [hN, hD, Int.sub_mul]
          omega
        rw [hline, ← hD] at hcov
        rw [← hN, ← hD] at h0 ⊢
        have e1 : (fracOf N D).1 * ((Int.gcd N D : Nat) : Int) = N := Int.ediv_mul_cancel (Int.gcd_dvd_left ..)
        have e2 : (fracOf N D).2 * ((Int.gcd N D : Nat) : Int) = D := Int.ediv_mul_cancel (Int.gcd_dvd_right ..)
        generalize ((Int.gcd N D : Nat) : Int) = k at *
        generalize (fracOf N D).1 = x at *
        generalize (fracOf N D).2 = y at *
        generalize (atS l i).v = v at *
        have m1 : (x - v * y) * k ≤ (d * y) * k := by
          rw [Int.sub_mul, Int.mul_assoc, Int.mul_assoc, e1, e2]; exact hcov.1
        have m2 : (v * y - x) * k ≤ (d * y) * k := by
          rw [Int.sub_mul, Int.mul_assoc, Int.mul_assoc, e1, e2]
          have := hcov.2
          omega
        have n1 := Int.le_of_mul_le_mul_right m1 h0
        have n2 := Int.le_of_mul_le_mul_right m2 h0
        simp only [dist]
        split <;> omega
/-- The error that is told is at most the deviation. -/
theorem err_fits {d m : Int} {l : List Smp} {ks : List Int} (hd : 0 ≤ d) (hK : keptErr l ks = 0) (hf : fitsB d m l ks = true) (hE : errE l ks = 0) : (errF l ks).1 ≤ d * (errF l ks).2 ∧ (1 ≤ (errF l ks).2 ∧ (errF l ks).2 ≤ 345686400000) := by
  unfold errF
  rw [if_pos hE]
  unfold errE at hE
  rw [if_neg (by simp [hK])] at hE
  have hb : 0 ≤ bst l (choOf l ks) l.length := by
    by_cases h : bst l (choOf l ks) l.length < 0
    · rw [if_pos h] at hE; omega
    · omega
  have hh := bst_has l (choOf l ks) l.length hb
  have hr := (bst_range l (choOf l ks) l.length).2
  exact ⟨off_fits hd hK hf _ (by omega) hh, (offV_good hK _ hh).2.2⟩
end Go.Proofs.Ytmcojidaimeijaa

/- Mathematics of shortest: one round fills one place of the table. -/

namespace Go.Proofs.Ytmcojidaimeijaa
set_option linter.unusedVariables false
set_option linter.unusedSimpArgs false

/-- A table of the fewest steps, as two rows, right from place i on; before it: no steps. -/
structure TabR (d m : Int) (l : List Smp) (i : Nat) (N F : List Nat) : Prop where
  hN : N.length = l.length
  hF : F.length = l.length
  hb : ∀ j, j < l.length → F.getD j 0 + j < l.length
  z : ∀ j, j < i → F.getD j 0 = 0
  eq : ∀ j, i ≤ j → j < l.length → (N.getD j 0, F.getD j 0) = bestTo (nextB d m l j) (fun x => F.getD x 0) l.length l.length
theorem getD_zeros (n j : Nat) : (List.replicate n 0).getD j 0 = 0 := by
  rw [List.getD_eq_getElem?_getD, List.getElem?_replicate]
  split <;> rfl
theorem tab_zero (d m : Int) (l : List Smp) : TabR d m l l.length (List.replicate l.length 0) (List.replicate l.length 0) where
  hN := by simp
  hF := by simp
  hb := fun j hj => by rw [getD_zeros]; omega
  z := fun j _ => getD_zeros _ j
  eq := fun j h1 h2 => by omega
theorem getD_set (F : List Nat) (i j x : Nat) (hi : i < F.length) : (F.set i x).getD j 0 = if i = j then x else F.getD j 0 := by
  rw [List.getD_eq_getElem?_getD, List.getElem?_set, List.getD_eq_getElem?_getD]
  by_cases h : i = j
  · subst h; rw [if_pos rfl, if_pos rfl, if_pos hi]; rfl
  · rw [if_neg h, if_neg h]
theorem set_same (F : List Nat) (i x : Nat) (hi : i < F.length) (h : F.getD i 0 = x) : F.set i x = F := by
  rw [List.getD_eq_getElem?_getD, List.getElem?_eq_getElem hi] at h
  have h' : F[i] = x := h
  rw [← h']
  exact List.set_getElem_self hi
theorem next_up {d m : Int} {l : List Smp} {i x : Nat} (h : nextB d m l i x = true) : i < x := by
  unfold nextB at h
  rw [Bool.and_eq_true, decide_eq_true_eq] at h
  exact h.1

/-- The best next step from i, of the first k samples from i on. -/
def nbst (d m : Int) (l : List Smp) (F : List Nat) (i k : Nat) : Nat × Nat := bestTo (nextB d m l i) (fun x => F.getD x 0) l.length (i + k)
theorem nbst_zero (d m : Int) (l : List Smp) (F : List Nat) (i : Nat) : nbst d m l F i 0 = (l.length, 0) := bestTo_skip d m l _ _ i _ (by omega)
theorem nbst_skip {d m : Int} {l : List Smp} {F : List Nat} {i k : Nat} (h : nextB d m l i (i + k) = false) : nbst d m l F i (k + 1) = nbst d m l F i k := by
  unfold nbst
  rw [← Nat.add_assoc]
  conv => lhs; unfold bestTo
  rw [if_neg (fun x => by rw [h] at x; exact absurd x.1 (by simp))]
theorem nbst_step {d m : Int} {l : List Smp} {F : List Nat} {i k : Nat} (h : nextB d m l i (i + k) = true) :
    nbst d m l F i (k + 1) = if (nbst d m l F i k).1 = l.length ∨ F.getD (i + k) 0 + 1 < (nbst d m l F i k).2 then (i + k, F.getD (i + k) 0 + 1) else nbst d m l F i k := by
  unfold nbst
  rw [← Nat.add_assoc]
  conv => lhs; unfold bestTo
  by_cases hc : (bestTo (nextB d m l i) (fun x => F.getD x 0) l.length (i + k)).1 = l.length ∨ F.getD (i + k) 0 + 1 < (bestTo (nextB d m l i) (fun x => F.getD x 0) l.length (i + k)).2
  · rw [if_pos ⟨h, hc⟩, if_pos hc]
  · rw [if_neg (fun x => hc x.2), if_neg hc]
theorem nbst_bound {d m : Int} {l : List Smp} {F : List Nat} {i k : Nat} (hb : ∀ j, j < l.length → F.getD j 0 + j < l.length) (hi : i < l.length) (hk : i + k ≤ l.length) : (nbst d m l F i k).2 + i < l.length := by
  unfold nbst
  rcases bestTo_spec (nextB d m l i) (fun x => F.getD x 0) l.length (i + k) hk with ⟨h1, _⟩ | ⟨h1, h2, h3, _⟩
  · rw [h1]; simpa using hi
  · have h4 := next_up h2
    have h5 := hb _ (show (bestTo (nextB d m l i) (fun x => F.getD x 0) l.length (i + k)).1 < l.length by omega)
    rw [h3]
    show F.getD _ 0 + 1 + i < l.length
    omega
theorem TabR.round {d m : Int} {l : List Smp} {N F : List Nat} {i : Nat} (h : TabR d m l (i + 1) N F) (hi : i < l.length) :
    TabR d m l i (N.set i (nbst d m l F i (l.length - i)).1) (F.set i (nbst d m l F i (l.length - i)).2) where
  hN := by rw [List.length_set]; exact h.hN
  hF := by rw [List.length_set]; exact h.hF
  hb := fun j hj => by
    rw [getD_set F i j _ (by rw [h.hF]; exact hi)]
    by_cases e : i = j
    · subst e; rw [if_pos rfl]; exact nbst_bound h.hb hi (by omega)
    · rw [if_neg e]; exact h.hb j hj
  z := fun j hj => by
    rw [getD_set F i j _ (by rw [h.hF]; exact hi), if_neg (by omega)]
    exact h.z j (by omega)
  eq := fun j h1 h2 => by
    have hc : bestTo (nextB d m l j) (fun x => (F.set i (nbst d m l F i (l.length - i)).2).getD x 0) l.length l.length = bestTo (nextB d m l j) (fun x => F.getD x 0) l.length l.length :=
      bestTo_congr _ _ _ _ _ fun x _ hx => by
        have := next_up hx
        rw [getD_set F i x _ (by rw [h.hF]; exact hi), if_neg (by omega)]
    rw [hc, getD_set F i j _ (by rw [h.hF]; exact hi), getD_set N i j _ (by rw [h.hN]; exact hi)]
    by_cases e : i = j
    · subst e
      rw [if_pos rfl, if_pos rfl]
      unfold nbst
      rw [show i + (l.length - i) = l.length by omega]
    · rw [if_neg e, if_neg e]
      exact h.eq j (by omega) h2
/-- What is done with one sample that can be next. -/
theorem rows_step {d m : Int} {l : List Smp} {N F : List Nat} {i k : Nat} (hN : N.length = l.length) (hF : F.length = l.length) (hi : i < l.length) (hk : 0 < k) (h : nextB d m l i (i + k) = true) :
    (if (N.set i (nbst d m l F i k).1).getD i 0 = l.length ∨ (F.set i (nbst d m l F i k).2).getD (i + k) 0 + 1 < (F.set i (nbst d m l F i k).2).getD i 0 then (N.set i (nbst d m l F i k).1).set i (i + k) else N.set i (nbst d m l F i k).1) = N.set i (nbst d m l F i (k + 1)).1 ∧
    (if (N.set i (nbst d m l F i k).1).getD i 0 = l.length ∨ (F.set i (nbst d m l F i k).2).getD (i + k) 0 + 1 < (F.set i (nbst d m l F i k).2).getD i 0 then (F.set i (nbst d m l F i k).2).set i ((F.set i (nbst d m l F i k).2).getD (i + k) 0 + 1) else F.set i (nbst d m l F i k).2) = F.set i (nbst d m l F i (k + 1)).2 := by
  have a1 : (N.set i (nbst d m l F i k).1).getD i 0 = (nbst d m l F i k).1 := by rw [getD_set N i i _ (by omega), if_pos rfl]
  have a2 : (F.set i (nbst d m l F i k).2).getD i 0 = (nbst d m l F i k).2 := by rw [getD_set F i i _ (by omega), if_pos rfl]
  have a3 : (F.set i (nbst d m l F i k).2).getD (i + k) 0 = F.getD (i + k) 0 := by rw [getD_set F i (i + k) _ (by omega), if_neg (by omega)]
  rw [a1, a2, a3, nbst_step h]
  by_cases hc : (nbst d m l F i k).1 = l.length ∨ F.getD (i + k) 0 + 1 < (nbst d m l F i k).2
  · rw [if_pos hc, if_pos hc, if_pos hc, List.set_set, List.set_set]; exact ⟨rfl, rfl⟩
  · rw [if_neg hc, if_neg hc, if_neg hc]; exact ⟨rfl, rfl⟩
theorem mem_bound {F : List Nat} {n : Nat} (hF : F.length = n) (h : ∀ j, j < n → F.getD j 0 + j < n) : ∀ x ∈ F, x ≤ n := by
  intro x hx
  obtain ⟨j, hj, rfl⟩ := List.getElem_of_mem hx
  have := h j (by omega)
  rw [List.getD_eq_getElem?_getD, List.getElem?_eq_getElem hj] at this
  have h2 : F[j] + j < n := this
  omega
theorem set_bound {F : List Nat} {n i x : Nat} (hF : F.length = n) (hi : i < n) (h : ∀ j, j < n → F.getD j 0 + j < n) (hx : x + i < n) : ∀ j, j < n → (F.set i x).getD j 0 + j < n := by
  intro j hj
  rw [getD_set F i j x (by omega)]
  by_cases e : i = j
  · subst e; rw [if_pos rfl]; exact hx
  · rw [if_neg e]; exact h j hj
end Go.Proofs.Ytmcojidaimeijaa

/- The contract of shortest (package compress). -/

namespace Go.Proofs.Ytmcojidaimeijaa
open Go.RowKit
set_option linter.unusedVariables false
set_option linter.unusedSimpArgs false

/-- A row that was made is a block of its own. -/
theorem made_blk {w : World} {base g n : Nat} (h : w.ownsRow base 3 1 (.slice (some ⟨g, 0, none⟩) n n) n (madeCells (Value.cells (.int .i64 0)) (n * 1)).toList) : Blk w g 3 (cellsN (List.replicate n 0)) := by
  rcases h.2 with ⟨e, _⟩ | ⟨g', cap, cur, e, _, hg, _, _, hs, ht⟩
  · cases e
  · simp only [Value.slice.injEq, Option.some.injEq, Addr.mk.injEq, and_true, true_and] at e
    obtain ⟨rfl, rfl⟩ := e
    have e2 : cur = cellsN (List.replicate n 0) := by
      apply Array.toList_inj.1
      rw [← List.take_of_length_le (l := cur.toList) (i := n * 1) (by simp; omega), ht]
      have e3 : (madeCells (Value.cells (.int .i64 0)) (n * 1)).toList = List.replicate n (Value.int .i64 0) := by
        rw [List.eq_replicate_iff]
        refine ⟨by simp [madeCells], fun b hb => ?_⟩
        simp [madeCells, Value.cells, Nat.mod_one] at hb
        exact hb.2.symm
      rw [e3]
      simp [cellsN]
    rw [e2] at hg
    exact hg
theorem info_int : (Try.prog.info? 3).map (fun i => (i.zero, i.size, i.bytes)) = some (some (.int .i64 0), 1, 8) := by kernel_rfl

/-- The number in a box, and one more. -/
def boxN : Value → World → Nat
  | .pointer (some a), W => match W.cell? a with
    | some (.int _ x) => (x + 1).toNat
    | _ => 0
  | _, _ => 0
theorem boxN_eq {W : World} {g : Nat} {x : Int} (h : Blk W g 3 #[.int .i64 x]) : boxN (.pointer (some ⟨g, 0, none⟩)) W = (x + 1).toNat := by
  have := h.cell 0
  simp only [boxN]
  rw [this]
  rfl

/-- What lies while shortest works; g is the box of the place, which is i - 1. -/
structure ShK (w0 : World) (d m : Int) (v : Value) (l : List Smp) (gf bf gn bn : Nat) (i : Nat) (N F : List Nat) (g : Nat) (W : World) : Prop where
  bd : Blk W w0.heap.size 50 #[.int .i64 d, .int .i64 m]
  bl : Blk W (w0.heap.size + 1) 26 #[v]
  rf : Blk W gf 3 (cellsN F)
  xf : Blk W bf 22 #[.slice (some ⟨gf, 0, none⟩) l.length l.length]
  rn : Blk W gn 3 (cellsN N)
  xn : Blk W bn 22 #[.slice (some ⟨gn, 0, none⟩) l.length l.length]
  bi : Blk W g 3 #[.int .i64 ((i : Int) - 1)]
  lo : Below w0.heap.size w0 W
  o1 : w0.heap.size + 1 < gf
  o2 : gf < bf
  o3 : bf < gn
  o4 : gn < bn
  o5 : bn < g

theorem blk_ne {w : World} {a b : Nat} {t e : TypeId} {cs cm : Array Value} (h : Blk w a t cs) (hm : Blk w b e cm) (hne : t ≠ e) : a ≠ b := by
  intro h2
  subst h2
  exact h.no hne _ _ hm
theorem atS_drop (l : List Smp) (a j : Nat) : atS (l.drop a) j = atS l (a + j) := by
  unfold atS
  rw [List.getD_eq_getElem?_getD, List.getD_eq_getElem?_getD, List.getElem?_drop]
theorem But2.below {c s : Nat} {w0 a b : World} (h : Below w0.heap.size w0 a) (k : But2 c s a b) (hc : w0.heap.size ≤ c) (hs : w0.heap.size ≤ s) : Below w0.heap.size w0 b :=
  ⟨k.os.trans h.os, k.tape.trans h.tape, k.output.trans h.output, Nat.le_trans h.size k.size, fun i hi => (k.block i (Nat.lt_of_lt_of_le hi h.size) (by omega) (by omega)).trans (h.block i hi)⟩

/-- The samples that can follow sample q. -/
theorem shortEach_any (d m : Int) (v : Value) (l : List Smp) (q : Nat) (N F : List Nat) (bi bn bl bf gn gf c : Nat) (pa : Option Addr) (W0 : World)
    (hR : RdS W0 57 v (l.drop q)) (hq : q < l.length) (hlong : l.length ≤ 300) (hfit : FitL l) (hd : 0 ≤ d ∧ d ≤ 2000000)
    (xi : Blk W0 bi 3 #[.int .i64 (q : Int)]) (xn : Blk W0 bn 22 #[.slice (some ⟨gn, 0, none⟩) l.length l.length]) (xl : Blk W0 bl 26 #[.slice pa l.length c]) (xf : Blk W0 bf 22 #[.slice (some ⟨gf, 0, none⟩) l.length l.length])
    (rn : Blk W0 gn 3 (cellsN (N.set q l.length))) (rf : Blk W0 gf 3 (cellsN F)) (htab : TabR d m l (q + 1) N F) (hne : gn ≠ gf) (hbi : bi ≠ gn ∧ bi ≠ gf) :
    Calls Try.prog 113 #[.agg #[.int .i64 d, .int .i64 m], v, .func (.func 114) #[] #[.pointer (some ⟨bi, 0, none⟩), .pointer (some ⟨bn, 0, none⟩), .pointer (some ⟨bl, 0, none⟩), .pointer (some ⟨bf, 0, none⟩)]] W0 fun e w' => e = .returned (.tuple #[]) ∧ But2 gn gf W0 w' ∧
      Blk w' gn 3 (cellsN (N.set q (nbst d m l F q (l.length - q)).1)) ∧ Blk w' gf 3 (cellsN (F.set q (nbst d m l F q (l.length - q)).2)) := by
  have hdl : (l.drop q).length = l.length - q := by simp
  have hfd : FitL (l.drop q) := by
    have h := hfit.part (a := q) (b := l.length - 1) (by omega) (by omega)
    rwa [List.take_of_length_le (by simp; omega)] at h
  have hsh := fun k => nextB_shift (d := d) (m := m) (seg := l.drop q) (l := l) (a := q) (k := k) (fun j _ => atS_drop l q j)
  have hbn : bn ≠ gn ∧ bn ≠ gf := ⟨blk_ne xn rn (by decide), blk_ne xn rf (by decide)⟩
  have hbl : bl ≠ gn ∧ bl ≠ gf := ⟨blk_ne xl rn (by decide), blk_ne xl rf (by decide)⟩
  have hbf : bf ≠ gn ∧ bf ≠ gf := ⟨blk_ne xf rn (by decide), blk_ne xf rf (by decide)⟩
  have hrl := rn.lt
  have hfl := rf.lt
  have h := eachNext_any 114 #[.pointer (some ⟨bi, 0, none⟩), .pointer (some ⟨bn, 0, none⟩), .pointer (some ⟨bl, 0, none⟩), .pointer (some ⟨bf, 0, none⟩)] d m v (l.drop q) W0
    (fun k W => But2 gn gf W0 W ∧ Blk W gn 3 (cellsN (N.set q (nbst d m l F q k).1)) ∧ Blk W gf 3 (cellsN (F.set q (nbst d m l F q k).2)))
    (by omega) (by omega) hfd hd enter_shortest1
    (fun k W h => Rd.keep hR fun b cur fr hb => h.1.block b (lt_of_heap hb)
      (fun e => by subst e; rw [show W0.heap[b]? = _ from rn] at hb; cases hb) (fun e => by subst e; rw [show W0.heap[b]? = _ from rf] at hb; cases hb))
    (fun k A B s hs hb h => ⟨⟨hb.os.trans h.1.os, hb.tape.trans h.1.tape, hb.output.trans h.1.output, Nat.le_trans h.1.size hb.size, fun b h1 h2 h3 => (hb.block b (Nat.lt_of_lt_of_le h1 h.1.size) (by omega)).trans (h.1.block b h1 h2 h3)⟩,
      (hb.block _ h.2.1.lt (by omega)).trans h.2.1, (hb.block _ h.2.2.lt (by omega)).trans h.2.2⟩)
    (fun k A h0 hk hn hsz h => by
      rw [hdl] at hk
      rw [hsh] at hn
      have hst := rows_step (N := N) (F := F) htab.hN htab.hF hq h0 hn
      have hbb := set_bound htab.hF hq htab.hb (nbst_bound (d := d) (m := m) htab.hb hq (show q + k ≤ l.length by omega))
      have hmb := mem_bound (by rw [List.length_set]; exact htab.hF) hbb
      have kp : ∀ {b : Nat} {t : TypeId} {cs : Array Value}, Blk W0 b t cs → b ≠ gn ∧ b ≠ gf → Blk A b t cs := fun hx hy => (h.1.block _ hx.lt hy.1 hy.2).trans hx
      refine (shortest1_any bi bn bl bf gn gf l.length q k c pa (N.set q (nbst d m l F q k).1) (F.set q (nbst d m l F q k).2) A (kp xi hbi) (kp xn hbn) (kp xl hbl) (kp xf hbf) h.2.1 h.2.2 (by rw [List.length_set]; exact htab.hN) (by rw [List.length_set]; exact htab.hF) (by omega) (by omega) (fun x hx => by have := hmb x hx; omega) hne hbi).mono ?_
      rintro e w' ⟨rfl, N', F', hN', hF', gN, gF, k1, k2, k3, k4, k5⟩
      rw [hst.1] at hN'
      rw [hst.2] at hF'
      subst hN'
      subst hF'
      exact ⟨rfl, ⟨⟨k1.trans h.1.os, k2.trans h.1.tape, k3.trans h.1.output, Nat.le_trans h.1.size k4, fun b h1 h2 h3 => (k5 b (Nat.lt_of_lt_of_le h1 h.1.size) h2 h3).trans (h.1.block b h1 h2 h3)⟩, gN, gF⟩, k4, fun b hb hlt => k5 b hlt (by omega) (by omega)⟩)
    (fun k A hk hn h => by
      rw [hsh] at hn
      rw [nbst_skip hn]
      exact h)
    ⟨⟨rfl, rfl, rfl, Nat.le_refl _, fun _ _ _ _ => rfl⟩, by rw [nbst_zero]; exact rn, by
      rw [nbst_zero, set_same F q 0 (by rw [htab.hF]; exact hq) (htab.z q (by omega))]; exact rf⟩
  rw [hdl] at h
  exact h

set_option maxRecDepth 100000 in
set_option maxHeartbeats 4000000 in
theorem shortest_any (d m : Int) (v : Value) (l : List Smp) (w : World) (hR : RdS w 57 v l) (hfit : FitL l) (hlong : l.length ≤ 300) (hd : 0 ≤ d ∧ d ≤ 2000000) :
    Calls Try.prog 84 #[.agg #[.int .i64 d, .int .i64 m], v] w fun e w' => ∃ (g : Nat) (N F : List Nat), e = .returned (.slice (some ⟨g, 0, none⟩) l.length l.length) ∧ N.length = l.length ∧ (∀ i, i < l.length → (N.getD i 0, F.getD i 0) = bestTo (nextB d m l i) (fun j => F.getD j 0) l.length l.length) ∧ Blk w' g 3 (cellsN N) ∧ Below w.heap.size w w' := by
  obtain ⟨pa, ca, rfl⟩ := hR.lenv
  have hmx : Try.prog.follows .mixedOrders = true := by kernel_rfl
  obtain ⟨i0, hi0, hz0, hz1, hz2⟩ := info_parts info_int
  have HMK := Lib.hid hi0
  have HZ := Lib.hid (And.intro hz0 (And.intro hz1 hz2))
  have HUN := Lib.hid (show Try.prog.underlying 22 = some (.slice 3) from Try.underlying22)
  clear hi0 hz0 hz1 hz2
  go_enter Try.func84, Try.ntmps84
  go_upto_region 1 with fail
  have b1 : Blk ((w.alloc (.cells #[.int .i64 d, .int .i64 m] 50)).alloc (.cells #[.slice pa l.length ca] 26)) w.heap.size 50 #[.int .i64 d, .int .i64 m] := (Blk.new w _ _).alloc _
  have b2 : Blk ((w.alloc (.cells #[.int .i64 d, .int .i64 m] 50)).alloc (.cells #[.slice pa l.length ca] 26)) (w.heap.size + 1) 26 #[.slice pa l.length ca] := Blk.new1 _ _ _ _
  have hlo : Below w.heap.size w ((w.alloc (.cells #[.int .i64 d, .int .i64 m] 50)).alloc (.cells #[.slice pa l.length ca] 26)) := ((Below.refl _ w).alloc (Nat.le_refl _) _).alloc (by simp) _
  generalize (w.alloc (.cells #[.int .i64 d, .int .i64 m] 50)).alloc (.cells #[.slice pa l.length ca] 26) = w1 at *
  have e0 := b2.cell 0
  go_upto_region 2 with (at_make; refine wpList_make_full _ rfl (.tmp 9) (.tmp 9) 22 rfl w.heap.size 3 i0 (.int .i64 0) 1 HUN.out HMK.out HZ.out.1 HZ.out.2.1 .i64 .i64 (l.length : Int) (l.length : Int) l.length rfl rfl rfl rfl (by rw [HZ.out.2.2]; omega) (by simp only [maxLen]; omega) (by exact hlo.size) ?_; intro wm hown hgrow)
  have rf := (made_blk hown).alloc (.cells #[.slice (some ⟨w1.heap.size, 0, none⟩) l.length l.length] 22)
  have xf : Blk (wm.alloc (.cells #[.slice (some ⟨w1.heap.size, 0, none⟩) l.length l.length] 22)) wm.heap.size 22 #[.slice (some ⟨w1.heap.size, 0, none⟩) l.length l.length] := Blk.new _ _ _
  have o1 : w.heap.size + 1 < w1.heap.size := b2.lt
  have o2 : w1.heap.size < wm.heap.size := (made_blk hown).lt
  have c1 := (show Blk wm _ _ _ from (hgrow.block _ b1.lt (by simp)).trans b1).alloc (.cells #[.slice (some ⟨w1.heap.size, 0, none⟩) l.length l.length] 22)
  have c2 := (show Blk wm _ _ _ from (hgrow.block _ b2.lt (by simp)).trans b2).alloc (.cells #[.slice (some ⟨w1.heap.size, 0, none⟩) l.length l.length] 22)
  have hlo2 := (hlo.grown hgrow hlo.size (fun k h => by cases h)).alloc (by omega) (.cells #[.slice (some ⟨w1.heap.size, 0, none⟩) l.length l.length] 22)
  clear b1 b2 hlo e0 hown hgrow
  generalize wm.alloc (.cells #[.slice (some ⟨w1.heap.size, 0, none⟩) l.length l.length] 22) = w2 at *
  generalize w1.heap.size = gf at *
  generalize wm.heap.size = bf at *
  have e0 := c2.cell 0
  go_upto_region 3 with (at_make; refine wpList_make_full _ rfl (.tmp 12) (.tmp 12) 22 rfl w.heap.size 3 i0 (.int .i64 0) 1 HUN.out HMK.out HZ.out.1 HZ.out.2.1 .i64 .i64 (l.length : Int) (l.length : Int) l.length rfl rfl rfl rfl (by rw [HZ.out.2.2]; omega) (by simp only [maxLen]; omega) (by exact hlo2.size) ?_; intro wm hown hgrow)
  have rn := (made_blk hown).alloc (.cells #[.slice (some ⟨w2.heap.size, 0, none⟩) l.length l.length] 22)
  have xn : Blk (wm.alloc (.cells #[.slice (some ⟨w2.heap.size, 0, none⟩) l.length l.length] 22)) wm.heap.size 22 #[.slice (some ⟨w2.heap.size, 0, none⟩) l.length l.length] := Blk.new _ _ _
  have o3 : bf < w2.heap.size := xf.lt
  have o4 : w2.heap.size < wm.heap.size := (made_blk hown).lt
  have kp : ∀ {b : Nat} {t : TypeId} {cs : Array Value}, Blk w2 b t cs → Blk (wm.alloc (.cells #[.slice (some ⟨w2.heap.size, 0, none⟩) l.length l.length] 22)) b t cs := fun h => (show Blk wm _ _ _ from (hgrow.block _ h.lt (by simp)).trans h).alloc _
  have d1 := kp c1
  have d2 := kp c2
  have d3 := kp rf
  have d4 := kp xf
  have hlo3 := (hlo2.grown hgrow hlo2.size (fun k h => by cases h)).alloc (by omega) (.cells #[.slice (some ⟨w2.heap.size, 0, none⟩) l.length l.length] 22)
  clear c1 c2 rf xf hlo2 e0 hown hgrow kp
  generalize wm.alloc (.cells #[.slice (some ⟨w2.heap.size, 0, none⟩) l.length l.length] 22) = w3 at *
  generalize w2.heap.size = gn at *
  generalize wm.heap.size = bn at *
  have e0 := d2.cell 0
  have hw0 : IntKind.i64.wrap ((l.length : Int) - 1) = (l.length : Int) - 1 := IntWalk.i64_in _ (by omega)
  go_wp2_with fail
  have hK0 : ShK w d m (.slice pa l.length ca) l gf bf gn bn l.length (List.replicate l.length 0) (List.replicate l.length 0) w3.heap.size (w3.alloc (.cells #[.int .i64 ((l.length : Int) - 1)] 3)) :=
    ⟨d1.alloc _, d2.alloc _, d3.alloc _, d4.alloc _, rn.alloc _, xn.alloc _, Blk.new _ _ _, hlo3.alloc hlo3.size _, o1, o2, o3, o4, xn.lt⟩
  have HFIT := Lib.hid hfit
  have HRD := Lib.hid hR
  clear d1 d2 d3 d4 rn xn hlo3 o1 o2 o3 o4 e0 hw0 HMK HZ HUN hfit hR
  go_loopw [7] (fun p wr => ∃ (i : Nat) (N F : List Nat) (g : Nat), i ≤ l.length ∧ p = .pointer (some ⟨g, 0, none⟩) ∧ TabR d m l i N F ∧ ShK w d m (.slice pa l.length ca) l gf bf gn bn i N F g wr) (fun p wr => boxN p wr)
  case atStart => exact ⟨l.length, _, _, _, Nat.le_refl _, rfl, tab_zero d m l, hK0⟩
  case round =>
    clear hK0
    obtain ⟨i, N, F, g, hil, rfl, htab, hk⟩ := hrel
    cases i with
    | zero =>
      have hbi := hk.bi
      rw [show (((0 : Nat) : Int) - 1) = -1 by omega] at hbi
      have e0 := hbi.cell 0
      have e1 := hk.xn.cell 0
      have HT := Lib.hid htab
      clear htab hbi
      go_wp2_with fail
      go_ret
      exact ⟨gn, N, F, rfl, HT.out.hN, fun j hj => HT.out.eq j (Nat.zero_le _) hj, hk.rn, hk.lo⟩
    | succ q =>
      have hbi := hk.bi
      rw [show (((q + 1 : Nat) : Int) - 1) = (q : Int) by omega] at hbi
      have HB0 := Lib.hid hbi
      have e0 := hbi.cell 0
      have e1 := hk.bl.cell 0
      have e2 := hk.xn.cell 0
      have f0 := hk.rn.frozen q
      have n0 : wr.cell? ⟨gn, q, none⟩ = some (.int .i64 ((N.getD q 0 : Nat) : Int)) := (hk.rn.cell q).trans (cellsN_at N q (by rw [htab.hN]; omega))
      have HT := Lib.hid htab
      clear htab
      go_upto_region 7 with fail
      have p1 := hk.rn.set_ q (.int .i64 (l.length : Int))
      rw [cellsN_set] at p1
      have hgne : g ≠ gn := by have := hk.o4; have := hk.o5; omega
      have hfne : gf ≠ gn := by have := hk.o2; have := hk.o3; omega
      have p2 := hk.rf.setOther (p := ⟨gn, q, none⟩) hfne (.int .i64 (l.length : Int))
      have p3 := hbi.setOther (p := ⟨gn, q, none⟩) hgne (.int .i64 (l.length : Int))
      have p4 := hk.bl.setOther (p := ⟨gn, q, none⟩) (blk_ne hk.bl hk.rn (by decide)) (.int .i64 (l.length : Int))
      have p5 := hk.xf.setOther (p := ⟨gn, q, none⟩) (blk_ne hk.xf hk.rn (by decide)) (.int .i64 (l.length : Int))
      have p6 := hk.xn.setOther (p := ⟨gn, q, none⟩) (blk_ne hk.xn hk.rn (by decide)) (.int .i64 (l.length : Int))
      have p7 := hk.bd.setOther (p := ⟨gn, q, none⟩) (blk_ne hk.bd hk.rn (by decide)) (.int .i64 (l.length : Int))
      have hlow := hk.lo.setCell (p := ⟨gn, q, none⟩) (by have := hk.o1; have := hk.o2; have := hk.o3; simp; omega) (.int .i64 (l.length : Int))
      have hgfn : g ≠ gf := by have := hk.o2; have := hk.o3; have := hk.o4; have := hk.o5; omega
      have hR2 : RdS (wr.setCell ⟨gn, q, none⟩ (.int .i64 (l.length : Int))) 57 (.slice pa l.length ca) l := Rd.setCell (Rd.below HRD.out hk.lo) _ _ (hk.rn.no (by decide))
      have HO := Lib.hid (And.intro hk.o1 (And.intro hk.o2 (And.intro hk.o3 (And.intro hk.o4 hk.o5))))
      clear hk hbi e0 e1 e2 f0 n0
      generalize wr.setCell ⟨gn, q, none⟩ (.int .i64 (l.length : Int)) = wA at *
      obtain ⟨bL, oL, cL, hvL, hcL1, hcL2, hbL, _⟩ := RdS.cells hR2 (by omega)
      cases hvL
      unfold maxLen at hcL2
      have hprt := RdS.part hR2 q l.length (by omega) (Nat.le_refl _) (some ⟨bL, oL + q * 3, none⟩) (fun _ b off h => by cases h; rfl)
      rw [List.take_of_length_le (by simp)] at hprt
      have HE := Lib.hid (shortEach_any d m _ l q N F g bn (w.heap.size + 1) bf gn gf ca (some ⟨bL, oL, none⟩) wA.drew hprt (by omega) hlong HFIT.out hd p3 p6 p4 p5 p1 p2 HT.out (fun e => hfne e.symm) ⟨hgne, hgfn⟩)
      have HBI := Lib.hid p3
      have HP := Lib.hid (And.intro p4 (And.intro p5 (And.intro p6 p7)))
      have e0 := p3.cell 0
      have e1 := p4.cell 0
      have e2 := p7.cell 0
      have e3 := p7.cell 1
      have hcaa : ¬ ca = q := by omega
      have hi1 : (q : Int) ≤ (ca : Int) := by omega
      have hi2 : (q : Int) ≤ (l.length : Int) := by omega
      have hi3 : q ≤ l.length := by omega
      have HG := Lib.hid (And.intro hgne (And.intro hfne hgfn))
      have hql : q + 1 ≤ l.length := hil
      clear hprt hR2 p1 p2 p3 p4 p5 p6 p7 hgne hfne hgfn hil
      go_still_tail 5, (by kernel_rfl)
      change wpList _ _ _ _ _ wA.drew
      go_wp2_with fail
      refine HE.out.mono ?_
      rintro e wk ⟨rfl, hb2, gN, gF⟩
      have hlow2 := hlow.drew
      have a3 : w.heap.size ≤ gn := by have := HO.out; omega
      have a4 : w.heap.size ≤ gf := by have := HO.out; omega
      have hlk := But2.below hlow2 hb2 a3 a4
      have kp : ∀ {b : Nat} {t : TypeId} {cs : Array Value}, Blk wA b t cs → b ≠ gn → b ≠ gf → Blk wk b t cs := fun hx h1 h2 => (hb2.block _ hx.lt h1 h2).trans hx
      have r1 := kp HP.out.1 (by have := HO.out; omega) (by have := HO.out; omega)
      have r2 := kp HP.out.2.1 (by have := HO.out; omega) (by have := HO.out; omega)
      have r3 := kp HP.out.2.2.1 (by have := HO.out; omega) (by have := HO.out; omega)
      have r4 := kp HP.out.2.2.2 (by have := HO.out; omega) (by have := HO.out; omega)
      have r5 := kp HBI.out HG.out.1 HG.out.2.2
      have hgk : g < wk.heap.size := r5.lt
      have e4 := r5.cell 0
      have hw1 : IntKind.i64.wrap ((q : Int) - 1) = (q : Int) - 1 := IntWalk.i64_in _ (by omega)
      have HR := Lib.hid (HT.out.round (by omega : q < l.length))
      have HKK := Lib.hid (show ∀ Z : World, Z = wk.alloc (.cells #[.int .i64 ((q : Int) - 1)] 3) → ShK w d m (.slice (some ⟨bL, oL, none⟩) l.length ca) l gf bf gn bn q (N.set q (nbst d m l F q (l.length - q)).1) (F.set q (nbst d m l F q (l.length - q)).2) wk.heap.size Z from fun Z hZ => by
        subst hZ
        have kq : ∀ {b : Nat} {t : TypeId} {cs : Array Value}, Blk wk b t cs → Blk (wk.alloc (.cells #[.int .i64 ((q : Int) - 1)] 3)) b t cs := fun hx => hx.alloc _
        have ho := HO.out
        exact ⟨kq r4, kq r1, kq gF, kq r2, kq gN, kq r3, Blk.new wk _ _, hlk.alloc hlk.size _, ho.1, ho.2.1, ho.2.2.1, ho.2.2.2.1, r3.lt⟩)
      have HBX := Lib.hid (show boxN (.pointer (some ⟨g, 0, none⟩)) wr = q + 1 by rw [boxN_eq HB0.out]; omega)
      clear hb2 gN gF hlow hlow2 r1 r2 r3 r4 r5 kp HE HP e0 e1 e2 e3 hlk a3 a4
      generalize N.set q (nbst d m l F q (l.length - q)).1 = N2 at *
      generalize F.set q (nbst d m l F q (l.length - q)).2 = F2 at *
      go_wp2_with fail
      go_roundw
      case rel => exact ⟨q, N2, F2, wk.heap.size, by omega, rfl, HR.out, HKK.out _ rfl⟩
      case measure => rw [HBX.out, boxN_eq (HKK.out _ rfl).bi]; omega
end Go.Proofs.Ytmcojidaimeijaa

/- The contract of Fits (package compress). -/

namespace Go.Proofs.Ytmcojidaimeijaa
open Go.RowKit
set_option linter.unusedVariables false
set_option linter.unusedSimpArgs false

def fitE (d m : Int) (l : List Smp) (ks : List Int) : Int := erE (doorErr d m) (keptErr l ks)
def fitR (d m : Int) (l : List Smp) (ks : List Int) : Bool := if fitE d m l ks = 0 then fitsB d m l ks else false
theorem keptErr_zero {l : List Smp} {ks : List Int} (h : keptErr l ks = 0) : serErr l = 0 ∧ idxErr l.length ks = 0 := by
  unfold keptErr at h; split at h <;> rename_i h1
  · omega
  · exact ⟨by simpa using h1, h⟩

def kAt (ks : List Int) (i : Nat) : Int := ks.getD i 0
theorem kAt_eq (ks : List Int) (i : Nat) (h : i < ks.length) : ks[i] = kAt ks i := by unfold kAt; rw [List.getD_eq_getElem?_getD, List.getElem?_eq_getElem h]; rfl
theorem RdI.kAt_ {w : World} {v : Value} {l : List Int} (h : RdI w v l) (hn : 0 < l.length) :
    ∃ b off c, v = .slice (some ⟨b, off, none⟩) l.length c ∧ l.length ≤ c ∧ c ≤ maxLen ∧ b < w.heap.size ∧ ∀ i, i < l.length → w.cell? ⟨b, off + i, none⟩ = some (.int .i64 (kAt l i)) := by
  obtain ⟨b, off, c, hv, h2, h3, hlt, hc⟩ := RdI.cells h hn
  exact ⟨b, off, c, hv, h2, h3, hlt, fun i hi => by rw [hc i hi, kAt_eq l i hi]⟩
theorem below_cells' {w w' : World} {b : Nat} (h : Below w.heap.size w w') (hb : b < w.heap.size) (o : Nat) : w'.cell? ⟨b, o, none⟩ = w.cell? ⟨b, o, none⟩ := (below_cells h).1 b o hb
theorem kAt_head {ks : List Int} (h : 0 < ks.length) : ks.head? = some (kAt ks 0) := by
  cases ks with
  | nil => simp at h
  | cons x r => rfl
theorem kAt_last {ks : List Int} {q : Nat} (h : ks.length = q + 1) : ks.getLast? = some (kAt ks q) := by
  rw [List.getLast?_eq_getElem?, show ks.length - 1 = q by omega, List.getElem?_eq_getElem (by omega), kAt_eq ks q (by omega)]
theorem IdxOk.at_ {n : Nat} {ks : List Int} (h : IdxOk n ks) (i : Nat) (hi : i < ks.length) : 0 ≤ kAt ks i ∧ kAt ks i < (n : Int) := by
  rw [← kAt_eq ks i hi]; exact h.rng _ (List.getElem_mem hi)
theorem IdxOk.lt_ {n : Nat} {ks : List Int} (h : IdxOk n ks) (i j : Nat) (hij : i < j) (hj : j < ks.length) : kAt ks i < kAt ks j := by
  rw [← kAt_eq ks i (by omega), ← kAt_eq ks j hj]; exact List.pairwise_iff_getElem.1 h.rise i j (by omega) hj hij
theorem pairsB_at (d m : Int) (l : List Smp) (ks : List Int) (j : Nat) (h : j + 1 < ks.length) : pairsB d m l (ks.drop j) = (nextB d m l (kAt ks j).toNat (kAt ks (j + 1)).toNat && pairsB d m l (ks.drop (j + 1))) := by
  rw [pairsB_drop d m l ks j h, kAt_eq ks j (by omega), kAt_eq ks (j + 1) h]

set_option maxRecDepth 100000 in
set_option maxHeartbeats 4000000 in
theorem fits_any (d m : Int) (v vk : Value) (l : List Smp) (ks : List Int) (w : World) (hR : RdS w 57 v l) (hK : RdI w vk ks) (hks : ks.length ≤ 100000) :
    Calls Try.prog 40 #[.agg #[.int .i64 d, .int .i64 m], v, vk] w fun e w' => e = .returned (.tuple #[.bool (fitR d m l ks), .int .i64 (fitE d m l ks)]) ∧ Below w.heap.size w w' := by
  obtain ⟨pa, ca, rfl⟩ := hR.lenv
  obtain ⟨pk, ck, rfl⟩ := hK.lenv
  have hmx : Try.prog.follows .mixedOrders = true := by kernel_rfl
  have hbw : Below w.heap.size w (w.alloc (.cells #[.int .i64 d, .int .i64 m] 50)) := (Below.refl _ w).alloc (Nat.le_refl _) _
  have bd0 : Blk (w.alloc (.cells #[.int .i64 d, .int .i64 m] 50)) w.heap.size 50 #[.int .i64 d, .int .i64 m] := Blk.new w _ _
  have HCD := Lib.hid (fun w => checkDoor_any d m w)
  have HCK := Lib.hid (fun (W : World) (hb : Below w.heap.size w W) => checkKept_any (.slice pa l.length ca) (.slice pk ks.length ck) l ks W (Rd.below hR hb) (RdI.below hK hb (Nat.le_refl _)) hks)
  have HR := Lib.hid hR
  have HK := Lib.hid hK
  have HFE := Lib.hid (show fitE d m l ks = if doorErr d m ≠ 0 then doorErr d m else keptErr l ks from rfl)
  have HFR := Lib.hid (show fitR d m l ks = if fitE d m l ks = 0 then fitsB d m l ks else false from rfl)
  have HDO := Lib.hid (fun h : doorErr d m = 0 => doorErr_ok h)
  have HKZ := Lib.hid (fun h : keptErr l ks = 0 => keptErr_zero h)
  generalize fitR d m l ks = RR at *
  generalize fitE d m l ks = E at *
  generalize doorErr d m = D at *
  generalize keptErr l ks = KE at *
  clear hR hK
  go_enter Try.func40, Try.ntmps40
  go_upto_region 1 with fail
  generalize w.alloc (.cells #[.int .i64 d, .int .i64 m] 50) = w1 at *
  have e0 := bd0.cell 0
  have e1 := bd0.cell 1
  go_wp2_with fail
  refine (HCD.out _).mono ?_
  rintro e w2 ⟨rfl, hb2⟩
  have hb := hbw.trans (hb2.mono hbw.size)
  have bd2 := bd0.below hb2 bd0.lt
  clear hbw hb2 e0 e1 bd0
  by_cases hD : D = 0
  · have hD' : (D != 0) = false := by simpa using hD
    have HD := Lib.hid hD
    clear hD
    go_wp2_with fail
    refine (HCK.out _ hb).mono ?_
    rintro e w3 ⟨rfl, hb3⟩
    have hbe := hb.trans (hb3.mono hb.size)
    have bd3 := bd2.below hb3 bd2.lt
    clear hb hb3 bd2
    by_cases hK0 : KE = 0
    · have hK' : (KE != 0) = false := by simpa using hK0
      have HE0 := Lib.hid (show E = 0 by rw [HFE.out, if_neg (by simpa using HD.out), hK0])
      obtain ⟨hS, hI⟩ := HKZ.out hK0
      have hix := idxErr_ok hI
      have hfit := serErr_fit hS
      have hlong := (serErr_good hS).1
      obtain ⟨hd, hm⟩ := HDO.out HD.out
      have hX := HFR.out
      rw [if_pos HE0.out] at hX
      clear hK0 HKZ HFE HFR HDO HCK HCD hI
      by_cases hn : l.length = 0
      · have hn' : ((l.length : Int) == 0) = true := by simp [hn]
        have HX := Lib.hid (show RR = true by rw [hX]; unfold fitsB; rw [if_pos hn])
        clear hX hn
        go_wp2_with fail
        go_ret2
        exact ⟨by rw [HX.out, HE0.out]; rfl, hbe⟩
      · have hn' : ((l.length : Int) == 0) = false := by simpa using hn
        unfold fitsB at hX
        rw [if_neg hn] at hX
        by_cases hk0 : ks.length = 0
        · have hk' : ((ks.length : Int) == 0) = true := by simp [hk0]
          have HX := Lib.hid (show RR = false by rw [hX, List.eq_nil_of_length_eq_zero hk0]; simp)
          clear hX hn hk0
          go_wp2_with fail
          go_ret2
          exact ⟨by rw [HX.out, HE0.out]; rfl, hbe⟩
        · have hk' : ((ks.length : Int) == 0) = false := by simpa using hk0
          have hKr : RdI w3 _ ks := RdI.below HK.out hbe (Nat.le_refl _)
          obtain ⟨b, off, cc, hv, hc1, hc2, hblt, hcell⟩ := RdI.kAt_ hKr (Nat.pos_of_ne_zero hk0)
          cases hv
          unfold maxLen at hc2
          obtain ⟨q, hq⟩ : ∃ q, ks.length = q + 1 := ⟨ks.length - 1, by omega⟩
          rw [kAt_head (by omega), kAt_last hq] at hX
          have HIX := Lib.hid (And.intro (fun i hi => hix.at_ i hi) (fun i j hij hj => hix.lt_ i j hij hj))
          have HPB := Lib.hid (pairsB_at d m l ks)
          have HPE := Lib.hid (pairsB_end d m l ks)
          have hql := hix.long
          have HW3 := Lib.hid hbe
          have hcell' : ∀ i, i < q + 1 → w3.cell? ⟨b, off + i, none⟩ = some (.int .i64 (kAt ks i)) := fun i hi => hcell i (by omega)
          have hcq : q + 1 ≤ ck := by omega
          have hql' : q + 1 ≤ l.length := by omega
          clear hcell hc1 hql
          rw [hq] at *
          have hcell := hcell'
          have hk2 : (((q : Int) + 1) == 0) = false := by rw [beq_eq_false_iff_ne]; omega
          have c0 := hcell 0 (by omega)
          have c1 := hcell q (by omega)
          rw [Nat.add_zero] at c0
          have HCE := Lib.hid hcell
          have HFIT := Lib.hid hfit
          have HIS := Lib.hid hS
          clear hcell hcell' hix hKr hfit hS hk0 hn hbe
          have hwl : IntKind.i64.wrap ((l.length : Int) - 1) = (l.length : Int) - 1 := IntWalk.i64_in _ (by omega)
          generalize hA0 : kAt ks 0 = A0 at *
          generalize hAL : kAt ks q = AL at *
          have HA0 := Lib.hid hA0
          have HAL := Lib.hid hAL
          clear hA0 hAL
          by_cases hq0 : q = 0
          · subst hq0
            obtain rfl : AL = A0 := HAL.out.symm.trans HA0.out
            clear c1
            by_cases h1 : AL = 0
            · have h1' : (AL != 0) = false := by simpa using h1
              by_cases h2 : AL = (l.length : Int) - 1
              · have h2' : (AL != (l.length : Int) - 1) = false := by simpa using h2
                have HX := Lib.hid (show RR = pairsB d m l ks by rw [hX, decide_eq_true (congrArg some h1), decide_eq_true (congrArg some h2)]; simp)
                clear hX h1 h2
                have HT := Lib.hid (show RR = true by rw [HX.out, ← List.drop_zero (l := ks)]; exact HPE.out 0 (by omega))
                by_cases hck : ck = 1
                · subst hck
                  go_wp2_with fail
                  refine wp_loop_rounds 1 ?_
                  rw [rounds_succ]
                  go_wp2_with fail
                  go_ret2
                  exact ⟨by rw [HT.out, HE0.out]; rfl, HW3.out⟩
                · go_wp2_with fail
                  refine wp_loop_rounds 1 ?_
                  rw [rounds_succ]
                  go_wp2_with fail
                  go_ret2
                  exact ⟨by rw [HT.out, HE0.out]; rfl, HW3.out⟩
              · have h2' : (AL != (l.length : Int) - 1) = true := by simpa using h2
                have HX := Lib.hid (show RR = false by rw [hX]; simp [h2])
                clear hX h1 h2
                go_wp2_with fail
                go_ret2
                exact ⟨by rw [HX.out, HE0.out]; rfl, HW3.out⟩
            · have h1' : (AL != 0) = true := by simpa using h1
              have HX := Lib.hid (show RR = false by rw [hX]; simp [h1])
              clear hX h1
              go_wp2_with fail
              go_ret2
              exact ⟨by rw [HX.out, HE0.out]; rfl, HW3.out⟩
          · have hck : ¬ ck = 1 := by omega
            have hq1 : 1 ≤ q := by omega
            clear hq0
            by_cases h1 : A0 = 0
            · have h1' : (A0 != 0) = false := by simpa using h1
              by_cases h2 : AL = (l.length : Int) - 1
              · have h2' : (AL != (l.length : Int) - 1) = false := by simpa using h2
                have HX := Lib.hid (show RR = pairsB d m l ks by rw [hX, decide_eq_true (congrArg some h1), decide_eq_true (congrArg some h2)]; simp)
                clear hX h1 h2
                go_wp2_with fail
                go_loopw [50] (fun ii wr => ∃ j : Nat, j ≤ q ∧ ii = .int .i64 (j : Int) ∧ RR = pairsB d m l (ks.drop j) ∧ Below w3.heap.size w3 wr) (fun ii _ => q - (intOf ii).toNat)
                case atStart => exact ⟨0, by omega, rfl, by rw [HX.out]; simp, Below.refl _ _⟩
                case round =>
                  obtain ⟨j, hj, rfl, hP, hbr⟩ := hrel
                  have HP := Lib.hid hP
                  clear hP
                  by_cases hlt : j < q
                  · have hcj := HCE.out j (by omega)
                    have hcj1 := HCE.out (j + 1) (by omega)
                    obtain ⟨ra1, ra2⟩ := HIX.out.1 j (by omega)
                    obtain ⟨rb1, rb2⟩ := HIX.out.1 (j + 1) (by omega)
                    have rab := HIX.out.2 j (j + 1) (by omega) (by omega)
                    have HPJ := Lib.hid (HPB.out j (by omega))
                    generalize kAt ks j = a at *
                    generalize kAt ks (j + 1) = bb at *
                    obtain ⟨aN, rfl⟩ : ∃ aN : Nat, a = (aN : Int) := ⟨a.toNat, by omega⟩
                    obtain ⟨bN, rfl⟩ : ∃ bN : Nat, bb = (bN : Int) := ⟨bb.toNat, by omega⟩
                    rw [Int.toNat_natCast, Int.toNat_natCast] at HPJ
                    have hab : aN < bN := by omega
                    have hbn : bN < l.length := by omega
                    have hR2 : RdS wr _ (.slice pa l.length ca) l := Rd.below HR.out (HW3.out.trans (hbr.mono HW3.out.size))
                    obtain ⟨bL, oL, cL, hvL, hcL1, hcL2, hbL, _⟩ := RdS.cells hR2 (by omega)
                    cases hvL
                    unfold maxLen at hcL2
                    have hprt := RdS.part hR2 aN (bN + 1) (by omega) (by omega) (some ⟨bL, oL + aN * 3, none⟩) (fun _ b off h => by cases h; rfl)
                    have hlp := part_long l aN bN hbn (by omega)
                    have hsp := spans_any d m (.slice (some ⟨bL, oL + aN * 3, none⟩) (bN + 1 - aN) (ca - aN)) _ wr.drew hprt (by omega) (by omega) (HFIT.out.part hbn (by omega)) hd
                    rw [hlp, show bN + 1 - aN - 1 = bN - aN by omega, nextB_part d m l aN bN hbn (by omega)] at hsp
                    have hcaa : ¬ ca = aN := by omega
                    have hbdr := bd3.below hbr bd3.lt
                    have d0 := hbdr.cell 0
                    have d1 := hbdr.cell 1
                    have q0 : wr.cell? ⟨b, off + j, none⟩ = some (.int .i64 (aN : Int)) := (below_cells' hbr hblt _).trans hcj
                    have q1 : wr.cell? ⟨b, off + 1 + j, none⟩ = some (.int .i64 (bN : Int)) := by
                      rw [show off + 1 + j = off + (j + 1) by omega]
                      exact (below_cells' hbr hblt _).trans hcj1
                    generalize nextB d m l aN bN = NB at *
                    have HSP := Lib.hid hsp
                    clear hsp hprt hR2 hcj hcj1 hlp hbdr
                    have hwb : IntKind.i64.wrap ((bN : Int) + 1) = (bN : Int) + 1 := IntWalk.i64_in _ (by omega)
                    have hi1 : (aN : Int) ≤ (bN : Int) + 1 := by omega
                    have hi2 : (bN : Int) + 1 ≤ (ca : Int) := by omega
                    have hi3 : (0 : Int) ≤ (aN : Int) := by omega
                    have hi4 : (j : Int) < (q : Int) + 1 := by omega
                    have hi5 : ((bN : Int) + 1).toNat = bN + 1 := by omega
                    go_upto_region 14 with fail
                    go_still_tail 9, (by kernel_rfl)
                    change wpList _ _ _ _ _ wr.drew
                    have hbrd := hbr.drew
                    cases NB
                    · have HF := Lib.hid (show RR = false by rw [HP.out, HPJ.out]; rfl)
                      go_wp2_with (go_at_call 85; refine HSP.out.mono ?_; rintro e wk ⟨rfl, hbk⟩)
                      go_ret2
                      exact ⟨by rw [HF.out, HE0.out]; rfl, (HW3.out.trans (hbrd.mono HW3.out.size)).trans (hbk.mono (by have := HW3.out.size; have := hbrd.size; omega))⟩
                    · have HF := Lib.hid (show RR = pairsB d m l (ks.drop (j + 1)) by rw [HP.out, HPJ.out]; simp)
                      go_wp2_with (go_at_call 85; refine HSP.out.mono ?_; rintro e wk ⟨rfl, hbk⟩)
                      go_roundw
                      case rel => exact ⟨j + 1, by omega, by go_num, HF.out, hbrd.trans (hbk.mono (by have := hbrd.size; omega))⟩
                      case measure => simp [intOf]; omega
                  · obtain rfl : j = q := by omega
                    have HT := Lib.hid (show RR = true by rw [HP.out]; exact HPE.out j (by omega))
                    go_wp2_with fail
                    go_ret2
                    exact ⟨by rw [HT.out, HE0.out]; rfl, HW3.out.trans (hbr.mono HW3.out.size)⟩
              · have h2' : (AL != (l.length : Int) - 1) = true := by simpa using h2
                have HX := Lib.hid (show RR = false by rw [hX]; simp [h2])
                clear hX h1 h2
                go_wp2_with fail
                go_ret2
                exact ⟨by rw [HX.out, HE0.out]; rfl, HW3.out⟩
            · have h1' : (A0 != 0) = true := by simpa using h1
              have HX := Lib.hid (show RR = false by rw [hX]; simp [h1])
              clear hX h1
              go_wp2_with fail
              go_ret2
              exact ⟨by rw [HX.out, HE0.out]; rfl, HW3.out⟩
    · have hK' : (KE != 0) = true := by simpa using hK0
      have HE0 := Lib.hid (show E = KE by rw [HFE.out, if_neg (by simpa using HD.out)])
      have HX := Lib.hid (show RR = false by rw [HFR.out, if_neg (by rw [HE0.out]; exact hK0)])
      clear hK0
      go_wp2_with fail
      go_ret2
      exact ⟨by rw [HX.out, HE0.out]; rfl, hbe⟩
  · have hD' : (D != 0) = true := by simpa using hD
    have HE0 := Lib.hid (show E = D by rw [HFE.out, if_pos hD])
    have HX := Lib.hid (show RR = false by rw [HFR.out, if_neg (by rw [HE0.out]; exact hD)])
    clear hD
    go_wp2_with fail
    go_ret2
    exact ⟨by rw [HX.out, HE0.out]; rfl, hb⟩
end Go.Proofs.Ytmcojidaimeijaa

/- The contract of Odd (package logmake). -/

namespace Go.Proofs.Ytmcojidaimeijaa
open Go.RowKit
set_option linter.unusedVariables false
set_option linter.unusedSimpArgs false

set_option maxRecDepth 100000 in
set_option maxHeartbeats 1000000 in
theorem odd_went (w : World) (g : Nat) (L : List Int) (A : Option Addr) (cap k : Nat) (lo hi : Int) (hS : Strm w g L A cap k) (hk : k ≤ 900000000) (hl : -1000000000 ≤ lo) (hlh : lo ≤ hi) (hh : hi ≤ 100000000000) :
    Calls Try.prog 65 #[.pointer (some ⟨g, 0, none⟩), .int .i64 lo, .int .i64 hi] w fun e w' =>
      ∃ r : Int, e = .returned (.int .i64 r) ∧ (-1099511627776 ≤ r ∧ r ≤ 1099511627776) ∧ Went w g L A cap (k + 2) w' := by
  have hr := nxt_range L (k + 1) (hi - lo + 1) (by omega)
  go_enter Try.func65, Try.ntmps65
  go_wp2_with fail
  refine (flip_went _ g L A cap k 12 hS (by omega) (by omega)).mono ?_
  rintro e w1 ⟨rfl, hw1, hz1⟩
  by_cases hN : nxt L k 12 = 0
  · have hN' : (nxt L k 12 == 0) = true := by simpa using hN
    clear hN
    go_wp2_with fail
    refine (pick_new _ _ g L A cap (k + 1) [lo - 1, hi + 1, lo, hi, -1099511627776, 1099511627776] hw1.1 hz1.symm (by omega) (by simp)).mono ?_
    rintro e w2 ⟨rfl, hw2⟩
    have hm := pk_mem [lo - 1, hi + 1, lo, hi, -1099511627776, 1099511627776] L (k + 1) (by simp)
    simp only [List.mem_cons, List.not_mem_nil, or_false] at hm
    go_wp2_with fail
    go_ret
    exact ⟨_, rfl, by omega, hw2.1, hw1.2.trans hw2.2⟩
  · have hN' : (nxt L k 12 == 0) = false := by simpa using hN
    clear hN
    go_wp2_with fail
    refine (range_went _ g L A cap (k + 1) lo hi hw1.1 (by omega) (by omega) (by omega) (by omega)).mono ?_
    rintro e w2 ⟨rfl, hw2, _⟩
    go_wp2_with fail
    go_ret
    exact ⟨_, rfl, by omega, hw2.1, hw1.2.trans hw2.2⟩
end Go.Proofs.Ytmcojidaimeijaa

/- The contracts of ExceptionOf and DoorOf (package logmake): two numbers within bounds. -/

namespace Go.Proofs.Ytmcojidaimeijaa
open Go.RowKit
set_option linter.unusedVariables false
set_option linter.unusedSimpArgs false

set_option maxRecDepth 100000 in
set_option maxHeartbeats 2000000 in
theorem doorOf_went (w : World) (g : Nat) (L : List Int) (A : Option Addr) (cap k : Nat) (hS : Strm w g L A cap k) (hk : k ≤ 800000000) :
    Calls Try.prog 21 #[.pointer (some ⟨g, 0, none⟩)] w fun e w' =>
      ∃ (a b : Int) (k' : Nat), e = .returned (.agg #[.int .i64 a, .int .i64 b]) ∧ (-1099511627776 ≤ a ∧ a ≤ 1099511627776) ∧ (-1099511627776 ≤ b ∧ b ≤ 1099511627776) ∧ k' ≤ k + 7 ∧ Went w g L A cap k' w' := by
  have hlt0 := hS.lt
  have hB := Blk.new w 50 #[.int .i64 0, .int .i64 0]
  have HB := Lib.hid hB
  clear hB
  go_enter Try.func21, Try.ntmps21
  go_wp2_with fail
  refine (pick_new _ _ g L A cap k [0, 1, 1, 2, 4] (hS.alloc _) (by simp) (by omega) (by simp)).mono ?_
  rintro e w1 ⟨rfl, hw1⟩
  have hm1 := pk_mem [0, 1, 1, 2, 4] L k (by simp)
  simp only [List.mem_cons, List.not_mem_nil, or_false] at hm1
  generalize pk [0, 1, 1, 2, 4] L k = a at *
  have ha : 0 ≤ a ∧ a ≤ 1000 := by omega
  clear hm1
  go_wp2_with fail
  refine (pick_new _ _ g L A cap (k + 1) [1, 10, 30, 1000, 1000] hw1.1 rfl (by omega) (by simp)).mono ?_
  rintro e w2 ⟨rfl, hw2⟩
  have hm2 := pk_mem [1, 10, 30, 1000, 1000] L (k + 1) (by simp)
  simp only [List.mem_cons, List.not_mem_nil, or_false] at hm2
  generalize pk [1, 10, 30, 1000, 1000] L (k + 1) = b at *
  have hb : 0 ≤ b ∧ b ≤ 1000 := by omega
  clear hm2
  have hg2 : But g w w2 := ((But.refl g w).alloc _).trans (hw1.2.trans hw2.2)
  have hr2 : Blk w2 w.heap.size 50 #[.int .i64 0, .int .i64 0] := (HB.out.but hw1.2 (by omega)).but hw2.2 (by omega)
  have hs2 := hw2.1
  have hlt2 := hr2.lt
  have hf2 := Blk.new w2 50 #[.int .i64 a, .int .i64 b]
  have HR2 := Lib.hid hr2
  have HF2 := Lib.hid hf2
  clear hw1 hw2 hr2 hf2
  go_wp2_with fail
  refine (flip_went _ g L A cap (k + 2) 15 (hs2.alloc _) (by omega) (by omega)).mono ?_
  rintro e w3 ⟨rfl, hw3, hz3⟩
  have hr3 : Blk w3 w.heap.size 50 #[.int .i64 0, .int .i64 0] := (HR2.out.alloc _).but hw3.2 (by omega)
  have hf3 : Blk w3 w2.heap.size 50 #[.int .i64 a, .int .i64 b] := HF2.out.but hw3.2 (by omega)
  have hg3 : But g w w3 := (hg2.alloc _).trans hw3.2
  have hs3 := hw3.1
  have HZ3 := Lib.hid hz3
  clear hz3 hw3 hg2 hs2
  have hne : ¬ w2.heap.size = w.heap.size := by omega
  have hne' : ¬ w.heap.size = w2.heap.size := by omega
  by_cases hN : nxt L (k + 2) 15 = 0
  · have hN' : (nxt L (k + 2) 15 == 0) = true := by simpa using hN
    clear hN
    have HR3 := Lib.hid hr3
    have HF3 := Lib.hid hf3
    clear hr3 hf3
    go_wp2_with fail
    refine (odd_went _ g L A cap (k + 3) 0 2000000 hs3 (by omega) (by omega) (by omega) (by omega)).mono ?_
    rintro e w4 ⟨x, rfl, hx, hw4⟩
    have hr4 := HR3.out.but hw4.2 (by omega)
    have hf4 := HF3.out.but hw4.2 (by omega)
    go_wp2_with fail
    refine (odd_went _ g L A cap (k + 5) 1 34560000000 hw4.1 (by omega) (by omega) (by omega) (by omega)).mono ?_
    rintro e w5 ⟨y, rfl, hy, hw5⟩
    have hr5 := hr4.but hw5.2 (by omega)
    have hf5 := hf4.but hw5.2 (by omega)
    have hw5' : Went w g L A cap (k + 7) w5 := ⟨hw5.1, hg3.trans (hw4.2.trans hw5.2)⟩
    have c0 : w5.cell? ⟨w.heap.size, 0, none⟩ = some (.int .i64 0) := hr5.cell 0
    have c1 : w5.cell? ⟨w.heap.size, 1, none⟩ = some (.int .i64 0) := hr5.cell 1
    have d0 : w5.cell? ⟨w2.heap.size, 0, none⟩ = some (.int .i64 a) := hf5.cell 0
    have d1 : w5.cell? ⟨w2.heap.size, 1, none⟩ = some (.int .i64 b) := hf5.cell 1
    have fr0 : w5.frozen? ⟨w.heap.size, 0, none⟩ = false := hr5.frozen 0
    have fr1 : w5.frozen? ⟨w.heap.size, 1, none⟩ = false := hr5.frozen 1
    have fs0 : w5.frozen? ⟨w2.heap.size, 0, none⟩ = false := hf5.frozen 0
    have fs1 : w5.frozen? ⟨w2.heap.size, 1, none⟩ = false := hf5.frozen 1
    clear hr4 hf4 hr5 hf5 hw4 hw5 hg3 hs3
    go_wp2_with fail
    refine bodyPost_ret (v := .agg #[.int .i64 x, .int .i64 y]) (by simp [results, Try.results21, go_sem, c0, c1, d0, d1, hne, hne']) rfl ⟨x, y, k + 7, rfl, hx, hy, by omega, ?_⟩
    exact hw5'.below hlt0 (by (repeat (refine Below.setCell ?_ (by first | exact Nat.le_refl _ | exact Nat.le_of_lt hlt2) _)); exact Below.refl _ _)
  · have hN' : (nxt L (k + 2) 15 == 0) = false := by simpa using hN
    clear hN
    have c0 : w3.cell? ⟨w.heap.size, 0, none⟩ = some (.int .i64 0) := hr3.cell 0
    have c1 : w3.cell? ⟨w.heap.size, 1, none⟩ = some (.int .i64 0) := hr3.cell 1
    have d0 : w3.cell? ⟨w2.heap.size, 0, none⟩ = some (.int .i64 a) := hf3.cell 0
    have d1 : w3.cell? ⟨w2.heap.size, 1, none⟩ = some (.int .i64 b) := hf3.cell 1
    have fr0 : w3.frozen? ⟨w.heap.size, 0, none⟩ = false := hr3.frozen 0
    have fr1 : w3.frozen? ⟨w.heap.size, 1, none⟩ = false := hr3.frozen 1
    have fs0 : w3.frozen? ⟨w2.heap.size, 0, none⟩ = false := hf3.frozen 0
    have fs1 : w3.frozen? ⟨w2.heap.size, 1, none⟩ = false := hf3.frozen 1
    have hw3' : Went w g L A cap (k + 3) w3 := ⟨hs3, hg3⟩
    clear hr3 hf3 hg3 hs3
    go_wp2_with fail
    refine bodyPost_ret (v := .agg #[.int .i64 a, .int .i64 b]) (by simp [results, Try.results21, go_sem, c0, c1, d0, d1, hne, hne']) rfl ⟨a, b, k + 3, rfl, by omega, by omega, by omega, ?_⟩
    exact hw3'.below hlt0 (by (repeat (refine Below.setCell ?_ (by first | exact Nat.le_refl _ | exact Nat.le_of_lt hlt2) _)); exact Below.refl _ _)
end Go.Proofs.Ytmcojidaimeijaa
