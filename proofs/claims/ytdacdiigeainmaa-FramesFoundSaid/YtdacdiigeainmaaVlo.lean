/- valued, IntegralOf (the reference), for a right series and a right window. -/
import Derived.Test.YtdacdiigeainmaaVdel
import Derived.Test.YtdacdiigeainmaaAgm
import Derived.Test.YtdacdiigeainmaaOnline
import Derived.Test.YtdacdiigeainmaaAround
import Derived.Deep.RegionWith
namespace Go.Proofs.Ytdacdiigeainmaa
open Go.RowKit
set_option linter.unusedVariables false
set_option linter.unusedSimpArgs false

theorem rlong_eq (f t : Int) (w : World) (hW : 0 ≤ f ∧ f ≤ t ∧ t ≤ 345686400000) :
    Calls Try.prog 38 #[.agg #[.int .i64 f, .int .i64 t]] w fun e w' => e = .returned (.int .i64 (t - f)) ∧ w' = w.alloc (.cells #[.int .i64 f, .int .i64 t] 49) := by
  go_enter Try.func38, Try.ntmps38
  go_wp2_with fail
  go_ret
  exact ⟨rfl, rfl⟩
theorem valL_eq {l : List Smp} {f t : Int} (hS : serErr l = 0) : (strL l f t).filter (fun x => !decide (x.s.q = 2)) = valL l f t := by
  unfold valL
  apply List.filter_congr
  intro x hx
  have := strL_ok hS x hx
  unfold StrOk at this
  by_cases h : x.s.q = 2
  · simp [h]
  · have h1 : x.s.q ≤ 1 := by omega
    simp [h, h1]
theorem valL_long (l : List Smp) (f t : Int) : (valL l f t).length ≤ l.length := Nat.le_trans (List.length_filter_le _ _) (strL_long l f t)

theorem Chain.take {p : Int} {r : List Str} (h : Chain p r) (k : Nat) : Chain p (r.take k) := by
  induction r generalizing p k with
  | nil => simpa using h
  | cons x r ih =>
    cases k with
    | zero => trivial
    | succ k => exact ⟨h.1, h.2.1, ih h.2.2 k⟩
theorem agS_bound {f t : Int} {r : List Str} (hW : 0 ≤ f ∧ f ≤ t ∧ t ≤ 345686400000) (hc : Chain f r) (hr : ∀ x ∈ r, StrOk f t x) : (0 ≤ (agS r).g ∧ (agS r).g ≤ 345686400000) ∧ (-345686400000000000 ≤ (agS r).s ∧ (agS r).s ≤ 345686400000000000) := by
  have h := agS_long (p := f) (t := t) r hc (fun x hx => by have := hr x hx; unfold StrOk at this; omega) hW.2.1 ⟨0, 0, 0, 0⟩ (Int.le_refl _)
  rw [show List.foldl (fun A x => agT A x.s.v x.a x.b) ⟨0, 0, 0, 0⟩ r = agS r from rfl] at h
  dsimp only at h
  omega
theorem agS_pos {f t : Int} {r : List Str} : (∀ x ∈ r, StrOk f t x) → (r.length : Int) ≤ (agS r).g := by
  refine snocI (P := fun r => (∀ x ∈ r, StrOk f t x) → (r.length : Int) ≤ (agS r).g) (fun _ => by simp [agS]) (fun r x ih hr => ?_) r
  rw [agS_snoc]
  have h1 := ih (fun y hy => hr y (by simp [hy]))
  have h2 := hr x (by simp)
  unfold StrOk at h2
  simp only [agT, List.length_append, List.length_singleton]
  omega
theorem agS_take (r : List Str) (k : Nat) (h : k < r.length) : agS (r.take (k + 1)) = agT (agS (r.take k)) (atT r k).s.v (atT r k).a (atT r k).b := by
  rw [List.take_succ_eq_append_getElem h, agS_snoc, atT_eq r k h]
theorem atT_mem (r : List Str) (k : Nat) (h : k < r.length) : atT r k ∈ r := by rw [← atT_eq r k h]; exact List.getElem_mem h

end Go.Proofs.Ytdacdiigeainmaa
