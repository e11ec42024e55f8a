/- Plain mathematics of the samples that lie in a window; part of a slice. -/
import Derived.Test.YtdacdiigeainmaaRise
namespace Go.Proofs.Ytdacdiigeainmaa
open Go.RowKit
set_option linter.unusedVariables false
set_option linter.unusedSimpArgs false

/-- Whether a sample lies outside of the window. -/
def outB (f t : Int) (x : Smp) : Bool := decide (x.t < f ∨ t ≤ x.t)

/-- The samples that lie in the window. -/
def slicF (f t : Int) (l : List Smp) : List Smp := l.filter fun x => !outB f t x

theorem posF_zero {s t : Int} {l : List Smp} (h : Rise (some s) l) (hs : t ≤ s + 1) : posF l t = 0 := by
  cases l with
  | nil => rfl
  | cons x r =>
    have := h.1 s rfl
    unfold posF
    rw [List.takeWhile_cons_of_neg (by simp; omega)]
    rfl
theorem posF_cons_lt {t : Int} {x : Smp} {l : List Smp} (h : x.t < t) : posF (x :: l) t = posF l t + 1 := by
  unfold posF
  rw [List.takeWhile_cons_of_pos (by simpa using h)]
  rfl
theorem posF_cons_ge {t : Int} {x : Smp} {l : List Smp} (h : ¬ x.t < t) : posF (x :: l) t = 0 := by
  unfold posF
  rw [List.takeWhile_cons_of_neg (by simpa using h)]
  rfl
theorem posF_mono (l : List Smp) {f t : Int} (h : f ≤ t) : posF l f ≤ posF l t := by
  induction l with
  | nil => simp [posF]
  | cons x r ih =>
    by_cases h1 : x.t < f
    · rw [posF_cons_lt h1, posF_cons_lt (by omega)]; omega
    · rw [posF_cons_ge h1]; omega
/-- What lies between two moments. -/
theorem slic_between (p : Option Int) (l : List Smp) (f t : Int) (h : Rise p l) (hft : f ≤ t) : (l.drop (posF l f)).take (posF l t - posF l f) = slicF f t l := by
  induction l generalizing p with
  | nil => simp [slicF]
  | cons x r ih =>
    have hr := ih (some x.t) h.2
    by_cases h1 : x.t < f
    · rw [posF_cons_lt h1, posF_cons_lt (by omega : x.t < t)]
      rw [List.drop_succ_cons, show posF r t + 1 - (posF r f + 1) = posF r t - posF r f from by omega, hr]
      unfold slicF
      rw [List.filter_cons_of_neg (by simp [outB]; omega)]
    · rw [posF_cons_ge h1]
      have h0 : posF r f = 0 := posF_zero h.2 (by omega)
      rw [h0] at hr
      simp only [List.drop_zero, Nat.sub_zero] at hr ⊢
      by_cases h2 : x.t < t
      · rw [posF_cons_lt h2, List.take_succ_cons, hr]
        unfold slicF
        rw [List.filter_cons_of_pos (by simp [outB]; omega)]
      · rw [posF_cons_ge h2]
        have h3 : posF r t = 0 := posF_zero h.2 (by omega)
        rw [h3] at hr
        unfold slicF at hr ⊢
        rw [List.filter_cons_of_neg (by simp [outB]; omega), ← hr]
        simp

/-- Part of a slice. -/
theorem RdS.part {w : World} {e : TypeId} {A : Option Addr} {c : Nat} {l : List Smp} (h : RdS w e (.slice A l.length c) l) (i j : Nat) (hij : i ≤ j) (hj : j ≤ l.length) (A' : Option Addr)
    (hA : i < l.length → ∀ b off, A = some ⟨b, off, none⟩ → A' = some ⟨b, off + i * 3, none⟩) : RdS w e (.slice A' (j - i) (c - i)) ((l.drop i).take (j - i)) := by
  obtain ⟨h1, a', c', hv, h2, h3, h4⟩ := h
  simp only [Value.slice.injEq, true_and] at hv
  obtain ⟨rfl, rfl⟩ := hv
  have hl : ((l.drop i).take (j - i)).length = j - i := by simp; omega
  refine ⟨by rw [cellsOf_length], A', c - i, by rw [hl], by rw [hl]; omega, by omega, fun h0 => ?_⟩
  rw [hl] at h0
  obtain ⟨b, off, cur, fr, hb, hh, hc⟩ := h4 (by omega)
  refine ⟨b, off + i * 3, cur, fr, hA (by omega) b off hb, hh, fun k hk => ?_⟩
  rw [hl] at hk
  have := hc (i * 3 + k) (by omega)
  rw [show off + i * 3 + k = off + (i * 3 + k) from by omega, this]
  have hq : cellsOf l = cellsOf (l.take i) ++ (cellsOf ((l.drop i).take (j - i)) ++ cellsOf ((l.drop i).drop (j - i))) := by
    rw [← cellsOf_append, List.take_append_drop, ← cellsOf_append, List.take_append_drop]
  have hti : (cellsOf (l.take i)).length = i * 3 := by rw [cellsOf_length]; simp; omega
  rw [hq, List.getElem?_append_right (by omega), hti, Nat.add_sub_cancel_left, List.getElem?_append_left (by rw [cellsOf_length, hl]; omega)]

end Go.Proofs.Ytdacdiigeainmaa
