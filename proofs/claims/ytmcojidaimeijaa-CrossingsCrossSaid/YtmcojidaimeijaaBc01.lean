import Derived.Test.YtmcojidaimeijaaDiv
import Derived.Test.YtmcojidaimeijaaRise
import Derived.Test.YtmcojidaimeijaaOnline
import Derived.Deep.RegionHeld3
import Derived.RegionTactic
import Derived.Deep.DeepCutAuto
import Derived.Test.YtmcojidaimeijaaApp
import Derived.Test.YtmcojidaimeijaaPressed
import Derived.Deep.QuietTactic
import Derived.BigQuiet
import Derived.Test.YtmcojidaimeijaaWinb
import Derived.Test.YtmcojidaimeijaaSlim
import Derived.Test.YtmcojidaimeijaaQck
import Derived.Test.YtmcojidaimeijaaKwm
import Derived.Test.YtmcojidaimeijaaPos
import Derived.Deep.RegionWith
/- Plain mathematics of crossings: what the program collects is what the reference collects. -/

namespace Go.Proofs.Ytmcojidaimeijaa
open Go.RowKit
set_option linter.unusedVariables false
set_option linter.unusedSimpArgs false

/-- A sample that is equal to the limit. -/
def eqL (L : Int) (s : Smp) : Bool := decide (s.v = L) && decide (s.q ≠ 2)
def btw (L : Int) (l : List Smp) (i k : Nat) : Bool := ((l.drop (i + 1)).take (k - (i + 1))).all (eqL L)
theorem btw_iff {L : Int} {l : List Smp} {i k : Nat} (hk : k ≤ l.length) : btw L l i k = true ↔ ∀ j, i < j → j < k → eqL L (atS l j) = true := by
  unfold btw
  rw [List.all_eq_true]
  constructor
  · intro h j h1 h2
    refine h _ ?_
    rw [← atS_eq l j (by omega), List.mem_iff_getElem]
    refine ⟨j - (i + 1), by simp; omega, ?_⟩
    simp only [List.getElem_take, List.getElem_drop]
    congr 1; omega
  · intro h s hs
    rw [List.mem_iff_getElem] at hs
    obtain ⟨n, hn, rfl⟩ := hs
    simp only [List.length_take, List.length_drop] at hn
    simp only [List.getElem_take, List.getElem_drop]
    have := h (i + 1 + n) (by omega) (by omega)
    rwa [← atS_eq l (i + 1 + n) (by omega)] at this
/-- Two values on both sides of the limit. -/
def opp (L : Int) (a b : Smp) : Bool := (decide (a.v < L) && decide (L < b.v)) || (decide (L < a.v) && decide (b.v < L))
def dif (a b : Int) : Int := if b ≤ a then a - b else b - a
/-- The time of a crossing. -/
def crT (L : Int) (l : List Smp) (i k : Nat) : Int × Int :=
  if k = i + 1 then fracOf ((atS l i).t * dif (atS l i).v (atS l k).v + dif (atS l i).v L * ((atS l k).t - (atS l i).t)) (dif (atS l i).v (atS l k).v)
  else ((atS l (i + 1)).t, 1)
def insB (f t : Int) (x : Int × Int) : Bool := decide (f * x.2 ≤ x.1) && decide (x.1 < t * x.2)
def crC (L : Int) (l : List Smp) (i k : Nat) : Bool := btw L l i k && decide ((atS l i).q ≠ 2) && decide ((atS l k).q ≠ 2) && opp L (atS l i) (atS l k)
def crs (L f t : Int) (l : List Smp) (i k : Nat) : List (Int × Int) := if crC L l i k = true ∧ insB f t (crT L l i k) = true then [crT L l i k] else []
/-- The last sample that is not equal to the limit, if none after it is Bad. -/
def lastF (L : Int) (l : List Smp) : Nat → Option Nat
  | 0 => none
  | m + 1 => if (atS l m).q = 2 then none else if (atS l m).v = L then lastF L l m else some m
def newF (L f t : Int) (l : List Smp) (m : Nat) : List (Int × Int) := match lastF L l m with
  | some j => crs L f t l j m
  | none => []
def outF (L f t : Int) (l : List Smp) : Nat → List (Int × Int)
  | 0 => []
  | m + 1 => outF L f t l m ++ newF L f t l m
/-- A row of the reference: all second samples before m. -/
def rowF (L f t : Int) (l : List Smp) (i : Nat) : Nat → List (Int × Int)
  | 0 => []
  | m + 1 => rowF L f t l i m ++ (if i < m then crs L f t l i m else [])
def allF (L f t : Int) (l : List Smp) (n : Nat) : Nat → List (Int × Int)
  | 0 => []
  | i + 1 => allF L f t l n i ++ rowF L f t l i n

theorem lastF_some {L : Int} {l : List Smp} {m j : Nat} (h : lastF L l m = some j) : j < m ∧ (atS l j).q ≠ 2 ∧ (atS l j).v ≠ L ∧ ∀ i, j < i → i < m → eqL L (atS l i) = true := by
  induction m with
  | zero => cases h
  | succ m ih =>
    unfold lastF at h
    split at h
    · cases h
    · rename_i hq
      split at h
      · rename_i hv
        obtain ⟨h1, h2, h3, h4⟩ := ih h
        refine ⟨by omega, h2, h3, fun i h5 h6 => ?_⟩
        by_cases hi : i = m
        · subst hi; unfold eqL; simp [hv, hq]
        · exact h4 i h5 (by omega)
      · rename_i hv
        cases h
        exact ⟨by omega, hq, hv, fun i h5 h6 => by omega⟩
theorem lastF_none {L : Int} {l : List Smp} {m : Nat} (h : lastF L l m = none) (i : Nat) (hi : i < m) (hq : (atS l i).q ≠ 2) (hv : (atS l i).v ≠ L) : ∃ j, i < j ∧ j < m ∧ eqL L (atS l j) = false := by
  induction m with
  | zero => omega
  | succ m ih =>
    unfold lastF at h
    by_cases him : i = m
    · subst him
      rw [if_neg hq, if_neg hv] at h
      cases h
    · split at h
      · rename_i hqm
        exact ⟨m, by omega, by omega, by unfold eqL; simp [hqm]⟩
      · split at h
        · obtain ⟨j, h1, h2, h3⟩ := ih h (by omega)
          exact ⟨j, h1, by omega, h3⟩
        · cases h
theorem opp_ne {L : Int} {a b : Smp} (h : opp L a b = true) : a.v ≠ L ∧ b.v ≠ L := by
  unfold opp at h
  simp only [Bool.or_eq_true, Bool.and_eq_true, decide_eq_true_eq] at h
  omega
/-- Only the last sample can pass. -/
theorem crs_last {L f t : Int} {l : List Smp} {i m : Nat} (hm : m < l.length) (hi : i < m) (h : crs L f t l i m ≠ []) : lastF L l m = some i := by
  have hc : crC L l i m = true := by
    unfold crs at h
    split at h
    · rename_i h1; exact h1.1
    · exact absurd rfl h
  unfold crC at hc
  simp only [Bool.and_eq_true, decide_eq_true_eq] at hc
  obtain ⟨⟨⟨h1, h2⟩, h3⟩, h4⟩ := hc
  have hb := (btw_iff (by omega)).1 h1
  have hv := (opp_ne h4).1
  cases hl : lastF L l m with
  | none =>
    obtain ⟨j, a, b, c⟩ := lastF_none hl i hi h2 hv
    rw [hb j a b] at c; cases c
  | some j =>
    obtain ⟨a, b, c, d⟩ := lastF_some hl
    rcases Nat.lt_trichotomy i j with h5 | h5 | h5
    · have := hb j h5 a
      unfold eqL at this; simp at this; exact absurd this.1 c
    · rw [h5]
    · have := d i h5 hi
      unfold eqL at this; simp at this; exact absurd this.1 hv
theorem rowF_eq {L f t : Int} {l : List Smp} {i : Nat} (h : (atS l i).v = L) (m : Nat) : rowF L f t l i m = [] := by
  induction m with
  | zero => rfl
  | succ m ih =>
    unfold rowF
    rw [ih]
    have : crs L f t l i m = [] := by
      unfold crs
      rw [if_neg]
      rintro ⟨h1, _⟩
      unfold crC at h1
      simp only [Bool.and_eq_true] at h1
      exact (opp_ne h1.2).1 h
    rw [this]; simp
theorem rowF_small {L f t : Int} {l : List Smp} {i : Nat} (m : Nat) (h : m ≤ i + 1) : rowF L f t l i m = [] := by
  induction m with
  | zero => rfl
  | succ m ih => unfold rowF; rw [ih (by omega), if_neg (by omega)]; rfl
/-- One more sample at the end of each row. -/
theorem allF_step {L f t : Int} {l : List Smp} {m : Nat} (hm : m < l.length) (n : Nat) (hn : n ≤ m) :
    allF L f t l (m + 1) n = allF L f t l m n ++ (match lastF L l m with | some j => if j < n then crs L f t l j m else [] | none => []) := by
  induction n with
  | zero => unfold allF; cases lastF L l m <;> simp
  | succ n ih =>
    unfold allF
    rw [ih (by omega)]
    have hr : rowF L f t l n (m + 1) = rowF L f t l n m ++ crs L f t l n m := by
      conv => lhs; unfold rowF
      rw [if_pos (by omega)]
    rw [hr]
    cases hl : lastF L l m with
    | none =>
      have : crs L f t l n m = [] := by
        by_cases h : crs L f t l n m = []
        · exact h
        · have := crs_last hm (by omega) h; rw [hl] at this; cases this
      rw [this]; simp
    | some j =>
      obtain ⟨a, b, c, d⟩ := lastF_some hl
      simp only
      rcases Nat.lt_trichotomy j n with h | h | h
      · have h1 : rowF L f t l n m = [] := by
          have := d n h (by omega)
          unfold eqL at this; simp at this
          exact rowF_eq this.1 m
        have h2 : crs L f t l n m = [] := by
          by_cases h2 : crs L f t l n m = []
          · exact h2
          · have := crs_last hm (by omega) h2; rw [hl] at this; cases this; omega
        rw [h1, h2, if_pos h, if_pos (by omega)]; simp
      · subst h
        rw [if_neg (by omega), if_pos (by omega)]; simp
      · have h2 : crs L f t l n m = [] := by
          by_cases h2 : crs L f t l n m = []
          · exact h2
          · have := crs_last hm (by omega) h2; rw [hl] at this; cases this; omega
        rw [h2, if_neg (by omega), if_neg (by omega)]; simp
theorem out_all {L f t : Int} {l : List Smp} (m : Nat) (hm : m ≤ l.length) : outF L f t l m = allF L f t l m m := by
  induction m with
  | zero => rfl
  | succ m ih =>
    unfold outF allF
    rw [ih (by omega), allF_step (by omega) m (Nat.le_refl _), rowF_small (m + 1) (by omega)]
    unfold newF
    cases hl : lastF L l m with
    | none => simp
    | some j => simp only; rw [if_pos (lastF_some hl).1]; simp
theorem outF_length {L f t : Int} {l : List Smp} (m : Nat) : (outF L f t l m).length ≤ m := by
  induction m with
  | zero => simp [outF]
  | succ m ih =>
    unfold outF
    have : (newF L f t l m).length ≤ 1 := by
      unfold newF
      cases lastF L l m with
      | none => simp
      | some j => unfold crs; simp only; split <;> simp
    rw [List.length_append]; omega
end Go.Proofs.Ytmcojidaimeijaa

/- The contracts of crossing and inside (package query). -/

namespace Go.Proofs.Ytmcojidaimeijaa
open Go.RowKit
set_option linter.unusedVariables false
set_option linter.unusedSimpArgs false

theorem dif_dist (a b : Int) : dist a b = dif a b := rfl
/-- A fraction whose products with moments are small. -/
def FitT (x : Int × Int) : Prop := (-2000000000000000000 ≤ x.1 ∧ x.1 ≤ 2000000000000000000) ∧ (0 < x.2 ∧ x.2 ≤ 4000000)

set_option maxRecDepth 100000 in
set_option maxHeartbeats 2000000 in
theorem inside_any (x : Int × Int) (f t : Int) (w : World) (hx : FitT x) (hf : 0 ≤ f ∧ f ≤ 400000000000) (ht : 0 ≤ t ∧ t ≤ 400000000000) :
    Calls Try.prog 83 #[.agg #[.int .i64 x.1, .int .i64 x.2], .agg #[.int .i64 f, .int .i64 t]] w fun e w' => e = .returned (.bool (insB f t x)) ∧ Below w.heap.size w w' := by
  obtain ⟨a, b⟩ := x
  unfold FitT at hx
  simp only at *
  have hm1 := mul_bound f b 400000000000 4000000 (by omega) (by omega)
  have hm2 := mul_bound t b 400000000000 4000000 (by omega) (by omega)
  have hw1 : IntKind.i64.wrap (f * b) = f * b := IntWalk.i64_in _ (by omega)
  have hw2 : IntKind.i64.wrap (t * b) = t * b := IntWalk.i64_in _ (by omega)
  have hE : insB f t (a, b) = (decide (f * b ≤ a) && decide (a < t * b)) := rfl
  generalize insB f t (a, b) = E at *
  have HE := Lib.hid hE
  clear hE
  by_cases h1 : f * b ≤ a
  · have h1' : decide (f * b ≤ a) = true := by simpa using h1
    by_cases h2 : a < t * b
    · have h2' : decide (a < t * b) = true := by simpa using h2
      have HE2 := Lib.hid (show E = true by rw [HE.out, h1', h2']; rfl)
      go_enter Try.func83, Try.ntmps83
      go_wp2_with fail
      go_ret
      exact ⟨ret_bool HE2.out.symm, ((Below.refl _ w).alloc (Nat.le_refl _) _).alloc (by simp) _⟩
    · have h2' : decide (a < t * b) = false := by simpa using h2
      have HE2 := Lib.hid (show E = false by rw [HE.out, h1', h2']; rfl)
      have h3 : t * b ≤ a := by omega
      clear h2
      go_enter Try.func83, Try.ntmps83
      go_wp2_with fail
      go_ret
      exact ⟨ret_bool HE2.out.symm, ((Below.refl _ w).alloc (Nat.le_refl _) _).alloc (by simp) _⟩
  · have h1' : decide (f * b ≤ a) = false := by simpa using h1
    have HE2 := Lib.hid (show E = false by rw [HE.out, h1']; rfl)
    have h3 : a < f * b := by omega
    clear h1
    go_enter Try.func83, Try.ntmps83
    go_wp2_with fail
    go_ret
    exact ⟨ret_bool HE2.out.symm, ((Below.refl _ w).alloc (Nat.le_refl _) _).alloc (by simp) _⟩
/-- The boxes of crossing: the result, both samples. -/
structure KX (w0 : World) (nx ny : Nat) (x y : Smp) (w : World) : Prop where
  b : Blk w w0.heap.size 35 #[.int .i64 0, .int .i64 0]
  x : Blk w nx 57 #[.int .i64 x.t, .int .i64 x.v, .int .i64 x.q]
  y : Blk w ny 57 #[.int .i64 y.t, .int .i64 y.v, .int .i64 y.q]
  e : Below w0.heap.size w0 w
theorem KX.step {w0 w w' : World} {nx ny : Nat} {x y : Smp} (hb : Below w.heap.size w w') (h : KX w0 nx ny x y w) : KX w0 nx ny x y w' :=
  ⟨h.b.below hb h.b.lt, h.x.below hb h.x.lt, h.y.below hb h.y.lt, h.e.trans (hb.mono h.e.size)⟩
theorem KX.drew {w0 w : World} {nx ny : Nat} {x y : Smp} (h : KX w0 nx ny x y w) : KX w0 nx ny x y w.drew := KX.step (show Below w.heap.size w w.drew from ⟨rfl, rfl, rfl, Nat.le_refl _, fun _ _ => rfl⟩) h
theorem KX.stored {w0 w : World} {nx ny : Nat} {x y : Smp} (h : KX w0 nx ny x y w) (u u' : Value) (hx : nx ≠ w0.heap.size) (hy : ny ≠ w0.heap.size) :
    Blk ((w.setCell ⟨w0.heap.size, 0, none⟩ u).setCell ⟨w0.heap.size, 1, none⟩ u') nx 57 #[.int .i64 x.t, .int .i64 x.v, .int .i64 x.q] ∧ Blk ((w.setCell ⟨w0.heap.size, 0, none⟩ u).setCell ⟨w0.heap.size, 1, none⟩ u') ny 57 #[.int .i64 y.t, .int .i64 y.v, .int .i64 y.q] :=
  ⟨(h.x.setOther hx _).setOther hx _, (h.y.setOther hy _).setOther hy _⟩
/-- The time of a crossing, of the samples from the first to the second one. -/
def croT (L : Int) (P : List Smp) : Int × Int :=
  if 2 < P.length then ((atS P 1).t, 1)
  else fracOf ((atS P 0).t * dif (atS P 0).v (atS P 1).v + dif (atS P 0).v L * ((atS P 1).t - (atS P 0).t)) (dif (atS P 0).v (atS P 1).v)

set_option maxRecDepth 100000 in
set_option maxHeartbeats 4000000 in
theorem crossing_any (v : Value) (P : List Smp) (L : Int) (w : World) (hR : RdS w 57 v P) (h2 : 2 ≤ P.length) (hlong : P.length ≤ 5000) (hL : -1000000 ≤ L ∧ L ≤ 1000000) (ha : Right (atS P 0)) (hb : Right (atS P 1)) (hv : 2 < P.length ∨ (atS P 0).v ≠ (atS P 1).v) :
    Calls Try.prog 82 #[v, .int .i64 L] w fun e w' => e = .returned (.agg #[.int .i64 (croT L P).1, .int .i64 (croT L P).2]) ∧ Below w.heap.size w w' := by
  have hR1 : RdS _ 57 v P := Rd.alloc hR (.cells #[.int .i64 0, .int .i64 0] 35)
  have hB := Blk.new w 35 #[.int .i64 0, .int .i64 0]
  have hbe := (Below.refl w.heap.size w).alloc (Nat.le_refl _) (.cells #[.int .i64 0, .int .i64 0] 35)
  obtain ⟨b, off, c, rfl, hc1, hc2, hblt, hcell⟩ := RdS.at_ hR1 (by omega)
  unfold maxLen at hc2
  obtain ⟨a0, a1, a2⟩ := hcell 0 (by omega)
  obtain ⟨b0, b1, b2⟩ := hcell 1 (by omega)
  have hE : croT L P = if 2 < P.length then ((atS P 1).t, 1) else fracOf ((atS P 0).t * dif (atS P 0).v (atS P 1).v + dif (atS P 0).v L * ((atS P 1).t - (atS P 0).t)) (dif (atS P 0).v (atS P 1).v) := rfl
  generalize croT L P = E at *
  generalize atS P 0 = x at *
  generalize atS P 1 = y at *
  have HE := Lib.hid hE
  clear hcell hR hR1 hE
  by_cases h3 : 2 < P.length
  · have HE2 := Lib.hid (show E = (y.t, 1) by rw [HE.out, if_pos h3])
    have h3' : (2 : Int) < (P.length : Int) := by omega
    go_enter Try.func82, Try.ntmps82
    go_upto_region 1 with fail
    have hlt := hB.lt
    generalize w.alloc (.cells #[.int .i64 0, .int .i64 0] 35) = w1 at *
    have r0 : w1.cell? ⟨w.heap.size, 0, none⟩ = some (.int .i64 0) := hB.cell 0
    have r1 : w1.cell? ⟨w.heap.size, 1, none⟩ = some (.int .i64 0) := hB.cell 1
    have g0 : w1.frozen? ⟨w.heap.size, 0, none⟩ = false := hB.frozen 0
    have g1 : w1.frozen? ⟨w.heap.size, 1, none⟩ = false := hB.frozen 1
    simp only [Nat.one_mul, Nat.zero_mul, Nat.add_zero] at a0 a1 a2 b0 b1 b2
    go_wp2_with fail
    refine bodyPost_ret (v := .agg #[.int .i64 y.t, .int .i64 1]) (by simp [results, Try.results82, go_sem, r0, r1]) rfl ⟨by rw [HE2.out], ?_⟩
    exact hbe.trans (by (repeat (refine Below.setCell ?_ (by exact Nat.le_refl _) _)); exact Below.refl _ _)
  · have HE2 := Lib.hid (show E = fracOf (x.t * dif x.v y.v + dif x.v L * (y.t - x.t)) (dif x.v y.v) by rw [HE.out, if_neg h3])
    have h3' : (P.length : Int) ≤ 2 := by omega
    have hl2 : (1 : Int) < (P.length : Int) := by omega
    go_enter Try.func82, Try.ntmps82
    go_upto_region 1 with fail
    have hlt := hB.lt
    generalize w.alloc (.cells #[.int .i64 0, .int .i64 0] 35) = w1 at *
    simp only [Nat.one_mul, Nat.zero_mul, Nat.add_zero] at a0 a1 a2 b0 b1 b2
    have hvv : x.v ≠ y.v := by rcases hv with h | h; · omega
                               · exact h
    have hD : 1 ≤ dif x.v y.v ∧ dif x.v y.v ≤ 2000000 := by unfold Right at ha hb; unfold dif; split <;> omega
    have hF : 0 ≤ dif x.v L ∧ dif x.v L ≤ 2000000 := by unfold Right at ha; unfold dif; split <;> omega
    have HD := Lib.hid (dif_dist x.v y.v)
    have hdl := fun w => distance_any x.v L w (by unfold Right at ha; omega) (by omega)
    rw [dif_dist] at hdl
    have HDL := Lib.hid hdl
    clear hdl h3
    generalize dif x.v y.v = D at *
    generalize dif x.v L = F at *
    have hT : -345686400000 ≤ y.t - x.t ∧ y.t - x.t ≤ 345686400000 := by unfold Right at ha hb; omega
    have hm1 := mul_bound x.t D 345686400000 2000000 (by unfold Right at ha; omega) (by omega)
    have hm2 := mul_bound F (y.t - x.t) 2000000 345686400000 (by omega) (by omega)
    have hw1 : IntKind.i64.wrap (y.t - x.t) = y.t - x.t := IntWalk.i64_in _ (by omega)
    have hw2 : IntKind.i64.wrap (x.t * D) = x.t * D := IntWalk.i64_in _ (by omega)
    have hw3 : IntKind.i64.wrap (F * (y.t - x.t)) = F * (y.t - x.t) := IntWalk.i64_in _ (by omega)
    have hw4 : IntKind.i64.wrap (x.t * D + F * (y.t - x.t)) = x.t * D + F * (y.t - x.t) := IntWalk.i64_in _ (by omega)
    have hred := fun w => reduced_any (x.t * D + F * (y.t - x.t)) D w (by omega) (by omega)
    generalize hV : fracOf (x.t * D + F * (y.t - x.t)) D = V at *
    have HRED := Lib.hid hred
    have HV := Lib.hid hV
    clear hred hV hm1 hm2
    go_upto_region 3 with fail
    go_region
    · have hk : KX w (w1.heap.size) (w1.heap.size + 1) x y ((w1.alloc (.cells #[.int .i64 x.t, .int .i64 x.v, .int .i64 x.q] 57)).alloc (.cells #[.int .i64 y.t, .int .i64 y.v, .int .i64 y.q] 57)).drew :=
        ⟨(hB.alloc _).alloc _, ((Blk.new _ _ _).alloc _).drew, (Blk.new1 _ _ _ _).drew, ((hbe.alloc hbe.size _).alloc (by simp; have := hbe.size; omega) _).drew⟩
      have hnx : w1.heap.size ≠ w.heap.size := by omega
      have hny : w1.heap.size + 1 ≠ w.heap.size := by omega
      go_upto_region 4 with fail
      generalize ((w1.alloc (.cells #[.int .i64 x.t, .int .i64 x.v, .int .i64 x.q] 57)).alloc (.cells #[.int .i64 y.t, .int .i64 y.v, .int .i64 y.q] 57)).drew = W2 at *
      generalize w1.heap.size + 1 = ny at *
      generalize w1.heap.size = nx at *
      have c0 : W2.cell? ⟨nx, 0, none⟩ = some (.int .i64 x.t) := hk.x.cell 0
      have c1 : W2.cell? ⟨nx, 1, none⟩ = some (.int .i64 x.v) := hk.x.cell 1
      have d0 : W2.cell? ⟨ny, 0, none⟩ = some (.int .i64 y.t) := hk.y.cell 0
      have d1 : W2.cell? ⟨ny, 1, none⟩ = some (.int .i64 y.v) := hk.y.cell 1
      go_wp2_with fail
      refine (distance_any x.v y.v _ (by unfold Right at ha hb; omega) (by unfold Right at ha hb; omega)).mono ?_
      rintro e w3 ⟨rfl, rfl⟩
      rw [HD.out]
      go_upto_region 5 with fail
      go_region_held3 (fun w' => w'.cell? ⟨nx, 0, none⟩ = some (.int .i64 x.t) ∧ w'.cell? ⟨nx, 1, none⟩ = some (.int .i64 x.v) ∧ w'.cell? ⟨ny, 0, none⟩ = some (.int .i64 y.t))
        (first | exact ⟨hkk.x.cell 0, hkk.x.cell 1, hkk.y.cell 0⟩ | exact ⟨hk.x.cell 0, hk.x.cell 1, hk.y.cell 0⟩ | exact ⟨(hkk.stored _ _ hnx hny).1.cell 0, (hkk.stored _ _ hnx hny).1.cell 1, (hkk.stored _ _ hnx hny).2.cell 0⟩ | go_keep)
        (first
        | (go_at_call 109; (with_reducible refine (HDL.out _).mono ?_); rintro e wk ⟨rfl, rfl⟩)
        | (go_at_call 112; (with_reducible refine (HRED.out _).mono ?_); rintro e wk ⟨rfl, hbk⟩; have hkk := KX.step hbk (by first | assumption | exact KX.drew (by assumption)); have t0 : wk.frozen? ⟨w.heap.size, 0, none⟩ = false := hkk.b.frozen 0; have t1 : wk.frozen? ⟨w.heap.size, 1, none⟩ = false := hkk.b.frozen 1; have t2 : wk.cell? ⟨w.heap.size, 0, none⟩ = some (.int .i64 0) := hkk.b.cell 0; have t3 : wk.cell? ⟨w.heap.size, 1, none⟩ = some (.int .i64 0) := hkk.b.cell 1; clear hbk))
      have hbe2 := hkk.e
      go_wp2_with fail
      refine bodyPost_ret (v := .agg #[.int .i64 V.1, .int .i64 V.2]) (by simp [results, Try.results82, go_sem, t2, t3]) rfl ⟨by rw [HE2.out], ?_⟩
      exact hbe2.trans (by (repeat (refine Below.setCell ?_ (by exact Nat.le_refl _) _)); exact Below.refl _ _)
    · have hk : KX w (w1.heap.size + 1) (w1.heap.size) x y ((w1.alloc (.cells #[.int .i64 y.t, .int .i64 y.v, .int .i64 y.q] 57)).alloc (.cells #[.int .i64 x.t, .int .i64 x.v, .int .i64 x.q] 57)).drew :=
        ⟨(hB.alloc _).alloc _, (Blk.new1 _ _ _ _).drew, ((Blk.new _ _ _).alloc _).drew, ((hbe.alloc hbe.size _).alloc (by simp; have := hbe.size; omega) _).drew⟩
      have hnx : w1.heap.size + 1 ≠ w.heap.size := by omega
      have hny : w1.heap.size ≠ w.heap.size := by omega
      go_upto_region 4 with fail
      generalize ((w1.alloc (.cells #[.int .i64 y.t, .int .i64 y.v, .int .i64 y.q] 57)).alloc (.cells #[.int .i64 x.t, .int .i64 x.v, .int .i64 x.q] 57)).drew = W2 at *
      generalize w1.heap.size + 1 = nx at *
      generalize w1.heap.size = ny at *
      have c0 : W2.cell? ⟨nx, 0, none⟩ = some (.int .i64 x.t) := hk.x.cell 0
      have c1 : W2.cell? ⟨nx, 1, none⟩ = some (.int .i64 x.v) := hk.x.cell 1
      have d0 : W2.cell? ⟨ny, 0, none⟩ = some (.int .i64 y.t) := hk.y.cell 0
      have d1 : W2.cell? ⟨ny, 1, none⟩ = some (.int .i64 y.v) := hk.y.cell 1
      go_wp2_with fail
      refine (distance_any x.v y.v _ (by unfold Right at ha hb; omega) (by unfold Right at ha hb; omega)).mono ?_
      rintro e w3 ⟨rfl, rfl⟩
      rw [HD.out]
      go_upto_region 5 with fail
      go_region_held3 (fun w' => w'.cell? ⟨nx, 0, none⟩ = some (.int .i64 x.t) ∧ w'.cell? ⟨nx, 1, none⟩ = some (.int .i64 x.v) ∧ w'.cell? ⟨ny, 0, none⟩ = some (.int .i64 y.t))
        (first | exact ⟨hkk.x.cell 0, hkk.x.cell 1, hkk.y.cell 0⟩ | exact ⟨hk.x.cell 0, hk.x.cell 1, hk.y.cell 0⟩ | exact ⟨(hkk.stored _ _ hnx hny).1.cell 0, (hkk.stored _ _ hnx hny).1.cell 1, (hkk.stored _ _ hnx hny).2.cell 0⟩ | go_keep)
        (first
        | (go_at_call 109; (with_reducible refine (HDL.out _).mono ?_); rintro e wk ⟨rfl, rfl⟩)
        | (go_at_call 112; (with_reducible refine (HRED.out _).mono ?_); rintro e wk ⟨rfl, hbk⟩; have hkk := KX.step hbk (by first | assumption | exact KX.drew (by assumption)); have t0 : wk.frozen? ⟨w.heap.size, 0, none⟩ = false := hkk.b.frozen 0; have t1 : wk.frozen? ⟨w.heap.size, 1, none⟩ = false := hkk.b.frozen 1; have t2 : wk.cell? ⟨w.heap.size, 0, none⟩ = some (.int .i64 0) := hkk.b.cell 0; have t3 : wk.cell? ⟨w.heap.size, 1, none⟩ = some (.int .i64 0) := hkk.b.cell 1; clear hbk))
      have hbe2 := hkk.e
      go_wp2_with fail
      refine bodyPost_ret (v := .agg #[.int .i64 V.1, .int .i64 V.2]) (by simp [results, Try.results82, go_sem, t2, t3]) rfl ⟨by rw [HE2.out], ?_⟩
      exact hbe2.trans (by (repeat (refine Below.setCell ?_ (by exact Nat.le_refl _) _)); exact Below.refl _ _)
end Go.Proofs.Ytmcojidaimeijaa

/- Slices of fractions: append of one, equality of one list. -/

namespace Go.Proofs.Ytmcojidaimeijaa
open Go.RowKit
set_option linter.unusedVariables false
set_option linter.unusedSimpArgs false

def fracCells (l : List (Int × Int)) : List Value := l.flatMap fun p => [.int .i64 p.1, .int .i64 p.2]
theorem fracCells_append (a b : List (Int × Int)) : fracCells (a ++ b) = fracCells a ++ fracCells b := by simp [fracCells]
theorem fracCells_length (l : List (Int × Int)) : (fracCells l).length = l.length * 2 := by
  induction l with
  | nil => rfl
  | cons x l ih => simp [fracCells] at ih ⊢; omega
theorem fracCells_get (l : List (Int × Int)) (i : Nat) (h : i < l.length) : (fracCells l)[i * 2]? = some (.int .i64 l[i].1) ∧ (fracCells l)[i * 2 + 1]? = some (.int .i64 l[i].2) := by
  induction l generalizing i with
  | nil => simp at h
  | cons x l ih =>
    cases i with
    | zero => simp [fracCells]
    | succ i =>
      have := ih i (by simpa using h)
      rw [show (i + 1) * 2 = i * 2 + 2 from by omega, show i * 2 + 2 + 1 = i * 2 + 1 + 2 from by omega]
      simpa [fracCells] using this
theorem info_frac : (Try.prog.info? 35).map (fun i => (i.zero, i.size, i.bytes)) = some (some (.agg #[.int .i64 0, .int .i64 0]), 2, 16) := by kernel_rfl
/-- append of one fraction that lies alone in block b. -/
theorem wpList_append_frac {w : World} {ops : Array Oper} {rest : List Oper} {o : Oper} {a : Act} {Q : Exit → Act → World → Prop} (hgd : o.guard = none) (s x : Operand)
    (ho : o.op = .call { callee := .builtin .append, args := #[s, x], argTypes := #[79, 79] })
    (base : Nat) (v : Value) (n : Nat) (l : List (Int × Int)) (hs : a.eval s = v) (hown : w.ownsRow base 35 2 v n (fracCells l)) (b : Nat) (hx : a.eval x = .slice (some ⟨b, 0, none⟩) 1 1) (y : Int × Int)
    (hb : Blk w b 35 #[.int .i64 y.1, .int .i64 y.2]) (hn : n ≤ 100000000) (hbase : base ≤ w.heap.size)
    (h : ∀ v' w', w'.ownsRow base 35 2 v' (n + 1) (fracCells (l ++ [y])) → w.grownBy w' v.ownBlock → wpList Try.prog ops Q rest (a.put o.dst v') w') : wpList Try.prog ops Q (o :: rest) a w := by
  obtain ⟨i0, hi0, hz0, hz1, hz2⟩ := info_parts info_frac
  refine wpList_append_own w hgd s x 79 ho base 35 i0 _ 2 16 Try.underlying79 hi0 hz0 hz1 hz2 rfl (by decide) v n _ hs hown ⟨b, 0, none⟩ 1 1 (fracCells [y]) hx rfl ?_ ?_ ?_ ?_ hbase ?_
  · intro j u hu
    have hbb := hb.cell j
    have hj : j < 2 := by
      rcases Nat.lt_or_ge j 2 with hlt | hge
      · exact hlt
      · rw [List.getElem?_eq_none (by simp [fracCells]; exact hge)] at hu; cases hu
    have e1 : (⟨b, 0, none⟩ : Addr).add j = ⟨b, j, none⟩ := by unfold Addr.add; split <;> simp_all
    rw [e1, hbb, ← hu]
    simp [fracCells]
  · intro u hu
    simp [fracCells] at hu
    rcases hu with rfl | rfl <;> rfl
  · simp only [maxLen]; omega
  · omega
  · intro v' w' h1 h2 _
    exact h v' w' (by rw [fracCells_append]; exact h1) h2

/-- A slice of fractions reads as l. -/
def RdF (w : World) (v : Value) (l : List (Int × Int)) : Prop := Rd w 35 2 v l.length (fracCells l)
theorem RdF.cells {w : World} {v : Value} {l : List (Int × Int)} (h : RdF w v l) (hn : 0 < l.length) :
    ∃ b off c, v = .slice (some ⟨b, off, none⟩) l.length c ∧ l.length ≤ c ∧ c ≤ maxLen ∧ b < w.heap.size ∧ ∀ i (hi : i < l.length), w.cell? ⟨b, off + i * 2, none⟩ = some (.int .i64 l[i].1) ∧ w.cell? ⟨b, off + i * 2 + 1, none⟩ = some (.int .i64 l[i].2) := by
  obtain ⟨b, off, c, hv, h2, h3, hlt, hc⟩ := Rd.cell h hn
  refine ⟨b, off, c, hv, h2, h3, hlt, fun i hi => ?_⟩
  obtain ⟨e1, e2⟩ := fracCells_get l i hi
  refine ⟨by rw [hc (i * 2) (by omega), e1], ?_⟩
  have := hc (i * 2 + 1) (by omega)
  rw [Nat.add_assoc, this, e2]
end Go.Proofs.Ytmcojidaimeijaa

/- Slices of fractions: equality of one list. -/

namespace Go.Proofs.Ytmcojidaimeijaa
open Go.RowKit
set_option linter.unusedVariables false
set_option linter.unusedSimpArgs false

theorem frac_neq (w : World) (x : Int × Int) : (binOp .neq 35 (.agg #[.int .i64 x.1, .int .i64 x.2]) (.agg #[.int .i64 x.1, .int .i64 x.2])).run Try.prog w = .ok (.bool false) w := by
  have h := frac_eqIn w x x
  rw [run_neq_struct, h]
  simp

end Go.Proofs.Ytmcojidaimeijaa

/- Plain mathematics of counters: what Total adds up, what Count counts. -/

namespace Go.Proofs.Ytmcojidaimeijaa
open Go.RowKit
set_option linter.unusedVariables false
set_option linter.unusedSimpArgs false

theorem snocInd {α : Type} {P : List α → Prop} (h0 : P []) (h1 : ∀ l x, P l → P (l ++ [x])) (l : List α) : P l := by
  have h : ∀ r : List α, P r.reverse := fun r => by
    induction r with
    | nil => simpa using h0
    | cons x r ih => rw [List.reverse_cons]; exact h1 _ _ ih
  have := h l.reverse
  rwa [List.reverse_reverse] at this
def incI (a n roll : Int) : Int := if n < a then n + roll - a else n - a
/-- The sum and the last value after some samples. -/
def tStep (roll : Int) (s : Int × Int) (x : Smp) : Int × Int := if x.q = 2 then s else (if 0 ≤ s.2 then s.1 + incI s.2 x.v roll else s.1, x.v)
def tSt (roll : Int) (l : List Smp) : Int × Int := l.foldl (tStep roll) (0, -1)
def tOk (roll : Int) (x : Smp) : Bool := decide (x.q = 2) || inB x.v 0 (roll - 1)
def tAll (roll : Int) (l : List Smp) : Bool := l.all (tOk roll)
theorem tSt_snoc (roll : Int) (l : List Smp) (x : Smp) : tSt roll (l ++ [x]) = tStep roll (tSt roll l) x := by unfold tSt; simp
theorem take_snocS (l : List Smp) (i : Nat) (h : i < l.length) : l.take (i + 1) = l.take i ++ [atS l i] := by
  rw [List.take_succ_eq_append_getElem h, atS_eq l i h]
theorem tSt_succ (roll : Int) (l : List Smp) (i : Nat) (h : i < l.length) : tSt roll (l.take (i + 1)) = tStep roll (tSt roll (l.take i)) (atS l i) := by rw [take_snocS l i h, tSt_snoc]
theorem tAll_succ (roll : Int) (l : List Smp) (i : Nat) (h : i < l.length) : tAll roll (l.take (i + 1)) = (tAll roll (l.take i) && tOk roll (atS l i)) := by
  rw [take_snocS l i h]; unfold tAll; simp
theorem tAll_false {roll : Int} {l : List Smp} {i : Nat} (h : i < l.length) (hx : tOk roll (atS l i) = false) : tAll roll l = false := by
  unfold tAll
  rw [List.all_eq_false]
  refine ⟨l[i], List.getElem_mem h, ?_⟩
  rw [atS_eq l i h, hx]; simp
theorem tSt_bound {roll : Int} (hr : 1 ≤ roll ∧ roll ≤ 2000000000) (l : List Smp) (h : tAll roll l = true) : (-1 ≤ (tSt roll l).2 ∧ (tSt roll l).2 ≤ roll - 1) ∧ (0 ≤ (tSt roll l).1 ∧ (tSt roll l).1 ≤ 2000000000 * (l.length : Int)) := by
  induction l using snocInd with
  | h0 => simp [tSt]; omega
  | h1 l x ih =>
    have h1 : tAll roll l = true ∧ tOk roll x = true := by unfold tAll at h ⊢; simpa using h
    have h2 := ih h1.1
    rw [tSt_snoc]
    unfold tStep
    by_cases hq : x.q = 2
    · rw [if_pos hq]; simp; omega
    · rw [if_neg hq]
      have h3 := h1.2
      unfold tOk at h3
      rw [show decide (x.q = 2) = false from by simpa using hq, Bool.false_or, inB_true] at h3
      simp only [List.length_append, List.length_singleton]
      by_cases h0 : 0 ≤ (tSt roll l).2
      · rw [if_pos h0]
        have : 0 ≤ incI (tSt roll l).2 x.v roll ∧ incI (tSt roll l).2 x.v roll ≤ 2000000000 := by unfold incI; split <;> omega
        simp; omega
      · rw [if_neg h0]; simp; omega

/-- The reference's list of values. -/
def cntF (f t : Int) (l : List Smp) : List Int := (l.filter fun x => inB x.t f t && decide (x.q ≠ 2)).map Smp.v
def rStep (roll : Int) (s : Int × Int) (n : Int) : Int × Int := ((if 0 ≤ s.2 then s.1 + (n - s.2) else s.1) + (if n < s.2 then roll else 0), n)
def rSt (roll : Int) (ns : List Int) : Int × Int := ns.foldl (rStep roll) (0, -1)
theorem cntF_slic (f t : Int) (l : List Smp) : cntF f t l = ((slicF f (t + 1) l).filter fun x => decide (x.q ≠ 2)).map Smp.v := by
  unfold cntF slicF
  rw [List.filter_filter]
  congr 1
  refine List.filter_congr fun x _ => ?_
  unfold inB outB
  rw [Bool.eq_iff_iff]
  simp
  omega
theorem rSt_eq {roll : Int} (l : List Smp) (h : tAll roll l = true) : rSt roll ((l.filter fun x => decide (x.q ≠ 2)).map Smp.v) = tSt roll l := by
  induction l using snocInd with
  | h0 => rfl
  | h1 l x ih =>
    have h1 : tAll roll l = true ∧ tOk roll x = true := by unfold tAll at h ⊢; simpa using h
    have h2 := ih h1.1
    rw [tSt_snoc, List.filter_append, List.map_append]
    unfold rSt at h2 ⊢
    rw [List.foldl_append, h2]
    unfold tStep
    by_cases hq : x.q = 2
    · rw [if_pos hq, List.filter_cons_of_neg (by simpa using hq)]; rfl
    · rw [if_neg hq, List.filter_cons_of_pos (by simpa using hq)]
      have h3 := h1.2
      unfold tOk at h3
      rw [show decide (x.q = 2) = false from by simpa using hq, Bool.false_or, inB_true] at h3
      simp only [List.filter_nil, List.map_cons, List.map_nil, List.foldl_cons, List.foldl_nil, rStep]
      generalize tSt roll l = s
      obtain ⟨a, b⟩ := s
      simp only [incI]
      refine Prod.ext ?_ rfl
      simp only
      by_cases h0 : 0 ≤ b
      · rw [if_pos h0, if_pos h0]
        split <;> omega
      · rw [if_neg h0, if_neg h0, if_neg (by omega)]; omega
theorem all_eq {roll : Int} (l : List Smp) : (((l.filter fun x => decide (x.q ≠ 2)).map Smp.v).all fun n => inB n 0 (roll - 1)) = tAll roll l := by
  induction l with
  | nil => rfl
  | cons x r ih =>
    unfold tAll at ih ⊢
    rw [List.all_cons, ← ih]
    unfold tOk
    by_cases hq : x.q = 2
    · rw [List.filter_cons_of_neg (by simpa using hq)]; simp [hq]
    · rw [List.filter_cons_of_pos (by simpa using hq), List.map_cons, List.all_cons]; simp [hq]

/-- How many samples have a quality. -/
def qCnt (q : Int) (l : List Smp) : Nat := l.countP fun x => decide (x.q = q)
def wCnt (f t q : Int) (l : List Smp) : Nat := l.countP fun x => inB x.t f (t - 1) && decide (x.q = q)
theorem wCnt_eq (f t q : Int) (l : List Smp) : wCnt f t q l = qCnt q (slicF f t l) := by
  unfold wCnt qCnt slicF
  rw [List.countP_filter]
  refine List.countP_congr fun x _ => ?_
  unfold inB outB
  simp
  constructor <;> intro h <;> omega

/-- Total. -/
def totE (l : List Smp) (f t roll : Int) : Int := orE (orE (serErr l) (winErr f t)) (if inB roll 1 2000000000 = false then 1 else if tAll roll (slicF f (t + 1) l) = true then 0 else 16)
def totV (l : List Smp) (f t roll : Int) : Int := if totE l f t roll = 0 then (tSt roll (slicF f (t + 1) l)).1 else 0
/-- Count. -/
def couE (l : List Smp) (f t q : Int) : Int := orE (orE (serErr l) (winErr f t)) (if inB q 0 2 = false then 4 else 0)
def couV (l : List Smp) (f t q : Int) : Int := if couE l f t q = 0 then (qCnt q (slicF f t l) : Int) else 0
end Go.Proofs.Ytmcojidaimeijaa

/- The contract of Total (package query). -/

namespace Go.Proofs.Ytmcojidaimeijaa
open Go.RowKit
set_option linter.unusedVariables false
set_option linter.unusedSimpArgs false

end Go.Proofs.Ytmcojidaimeijaa
