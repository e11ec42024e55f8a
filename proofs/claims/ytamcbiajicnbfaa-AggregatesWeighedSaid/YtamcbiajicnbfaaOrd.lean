/- A region that draws its order, inside a fence: it is enough to walk all orders that may be drawn, each as a list. -/
import Derived.Test.YtamcbiajicnbfaaItr
import Derived.OrdersIn
namespace Go.Proofs.Ytamcbiajicnbfaa
open Go.RowKit
set_option linter.unusedVariables false

/-- All orders in which the operations may come. -/
def ordersOf (md : Region.Mode) (ops : Array Oper) : Nat → Array Bool → List (List Nat)
  | 0, _ => [[]]
  | fuel + 1, listed => if Region.ready md ops listed = [] then [[]] else (Region.ready md ops listed).flatMap fun i => (ordersOf md ops fuel (listed.setIfInBounds i true)).map (i :: ·)
theorem mem_orders (md : Region.Mode) (ops : Array Oper) : ∀ (fuel t : Nat) (listed : Array Bool), Region.linearise.go md ops fuel t listed [] ∈ ordersOf md ops fuel listed := by
  intro fuel
  induction fuel with
  | zero => intro t listed; simp [Region.linearise.go, ordersOf]
  | succ fuel ih =>
    intro t listed
    simp only [Region.linearise.go, ordersOf]
    change (match (Region.ready md ops listed)[t % (Region.ready md ops listed).length]? with
      | some i => Region.linearise.go md ops fuel (t / (Region.ready md ops listed).length) (listed.setIfInBounds i true) [i]
      | none => [].reverse) ∈ _
    by_cases hr : Region.ready md ops listed = []
    · simp [hr]
    · rw [if_neg hr]
      cases hi : (Region.ready md ops listed)[t % (Region.ready md ops listed).length]? with
      | none =>
        have hlt : t % (Region.ready md ops listed).length < (Region.ready md ops listed).length := Nat.mod_lt _ (List.length_pos_iff.2 hr)
        simp at hi
        omega
      | some i =>
        simp only []
        rw [linearise_go_acc, List.reverse_singleton, List.singleton_append, List.mem_flatMap]
        exact ⟨i, List.mem_of_getElem? hi, List.mem_map_of_mem (ih _ _)⟩
theorem wpOpsIn_listed {F : Fence} {n : Nat} {P : Program} {ops : Array Oper} {Q : Exit → Act → World → Prop} (l : List Nat) : ∀ (a : Act) (w : World), wpListIn F n P ops Q (l.filterMap (ops[·]?)) a w → wpOpsIn F n P ops Q l a w := by
  induction l with
  | nil => intro a w h; exact h
  | cons i l ih =>
    intro a w h
    rw [wpOpsIn_cons]
    unfold wpOpIn
    cases ho : ops[i]? with
    | none => rw [List.filterMap_cons, ho] at h; exact ih a w h
    | some o =>
      rw [List.filterMap_cons, ho] at h
      simp only [wpListIn] at h ⊢
      by_cases hw : Region.wanted o (yielded ops a.tmps) = true
      · rw [if_pos hw] at h ⊢
        exact Oper.wpIn_mono (fun a w => ih a w) h
      · rw [if_neg hw] at h ⊢
        exact ⟨h.1, ih _ _ h.2⟩
theorem wpListIn_ops {F : Fence} {n : Nat} {P : Program} {ops ops' : Array Oper} {Q : Exit → Act → World → Prop} (l : List Oper) (hg : ∀ o ∈ l, o.guard = none) : ∀ (a : Act) (w : World), wpListIn F n P ops' Q l a w → wpListIn F n P ops Q l a w := by
  induction l with
  | nil => intro a w h; exact h
  | cons o l ih =>
    intro a w h
    have h0 := hg o (by simp)
    simp only [wpListIn, Region.wanted, h0, if_true] at h ⊢
    exact Oper.wpIn_mono (fun a w => ih (fun x hx => hg x (by simp [hx])) a w) h
theorem wpIn_region_orders {F : Fence} {n : Nat} {P : Program} {id : Nat} {ops : List Oper} {Q : Exit → Act → World → Prop} {a : Act} {w : World} (L : List (List Nat)) (hm : P.follows .mixedOrders = true) (hg : ∀ o ∈ ops, o.guard = none) (hL : ordersOf .any ops.toArray ops.length (Array.replicate ops.length false) = L)
    (h : ∀ l ∈ L, wpListIn F n P (l.filterMap (ops.toArray[·]?)).toArray Q (l.filterMap (ops.toArray[·]?)) a w.drew) : (Code.region id ops.toArray true).wpIn F n P Q a w :=
  wpIn_region_draw fun t => by
    simp only [Region.schedule, hm, Bool.true_or, if_true]
    have hmem := mem_orders .any ops.toArray ops.toArray.size t (Array.replicate ops.toArray.size false)
    refine wpOpsIn_listed _ _ _ (wpListIn_ops _ (fun o ho => ?_) _ _ (h _ ?_))
    · obtain ⟨i, _, hi⟩ := List.mem_filterMap.1 ho
      refine hg o ?_
      rw [List.getElem?_toArray] at hi
      exact List.mem_of_getElem? hi
    · rw [← hL]
      exact hmem
end Go.Proofs.Ytamcbiajicnbfaa
