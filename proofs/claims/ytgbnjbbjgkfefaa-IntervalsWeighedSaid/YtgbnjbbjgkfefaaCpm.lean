/- The mathematics of two series compared. -/
import Derived.Test.YtgbnjbbjgkfefaaVlo
import Derived.Test.YtgbnjbbjgkfefaaDist
namespace Go.Proofs.Ytgbnjbbjgkfefaa
open Go.RowKit
set_option linter.unusedVariables false
set_option linter.unusedSimpArgs false

def cmpT (W : Int) (A : Int × Int) (xv yv a b : Int) : Int × Int := (A.1 + (b - a), if W < dist xv yv then A.2 + (b - a) else A.2)
def cmpI (W xv : Int) (A : Int × Int) (ys : List Str) : Int × Int := ys.foldl (fun A y => cmpT W A xv y.s.v y.a y.b) A
def cmpJ (W xv : Int) (A : Int × Int) (ys : List Rn) : Int × Int := ys.foldl (fun A y => cmpT W A xv y.1.1 y.1.2.1 y.1.2.2) A
def cmpS (W : Int) (lb : List Smp) (xs : List Str) : Int × Int := xs.foldl (fun A x => cmpI W x.s.v A (valL lb x.a x.b)) (0, 0)
def cmpR (W : Int) (lb : List Smp) (xs : List Rn) : Int × Int := xs.foldl (fun A x => cmpI W x.1.1 A (valL lb x.1.2.1 x.1.2.2)) (0, 0)
theorem cmpI_snoc (W xv : Int) (A : Int × Int) (ys : List Str) (y : Str) : cmpI W xv A (ys ++ [y]) = cmpT W (cmpI W xv A ys) xv y.s.v y.a y.b := by simp [cmpI]
theorem cmpJ_snoc (W xv : Int) (A : Int × Int) (ys : List Rn) (y : Rn) : cmpJ W xv A (ys ++ [y]) = cmpT W (cmpJ W xv A ys) xv y.1.1 y.1.2.1 y.1.2.2 := by simp [cmpJ]
theorem cmpR_snoc (W : Int) (lb : List Smp) (xs : List Rn) (x : Rn) : cmpR W lb (xs ++ [x]) = cmpI W x.1.1 (cmpR W lb xs) (valL lb x.1.2.1 x.1.2.2) := by simp [cmpR]
theorem cmpS_snoc (W : Int) (lb : List Smp) (xs : List Str) (x : Str) : cmpS W lb (xs ++ [x]) = cmpI W x.s.v (cmpS W lb xs) (valL lb x.a x.b) := by simp [cmpS]
/-- Within bounds: both at most n times the longest window; apart at most both. -/
def CmpOk (n : Int) (A : Int × Int) : Prop := 0 ≤ A.2 ∧ A.2 ≤ A.1 ∧ A.1 ≤ n * 345686400000
theorem cmpT_ok {n W : Int} {A : Int × Int} {xv yv a b : Int} (h : CmpOk n A) (hab : 0 ≤ a ∧ a < b ∧ b ≤ 345686400000) : CmpOk (n + 1) (cmpT W A xv yv a b) := by
  obtain ⟨h1, h2, h3⟩ := h
  unfold CmpOk cmpT
  dsimp only
  split <;> omega
theorem cmpJ_ok {n W xv : Int} {A : Int × Int} (h : CmpOk n A) (ys : List Rn) : CmpOk (n + ys.length) (cmpJ W xv A ys) := by
  refine snocI (P := fun ys => CmpOk (n + ys.length) (cmpJ W xv A ys)) (by simpa [cmpJ] using h) (fun r y ih => ?_) ys
  rw [cmpJ_snoc]
  have := cmpT_ok (W := W) (xv := xv) (yv := y.1.1) ih ⟨y.2.2.1, y.2.2.2.1, y.2.2.2.2⟩
  rw [show n + ((r ++ [y]).length : Int) = n + r.length + 1 by simp; omega]
  exact this
theorem cmpI_ok {n W xv f t : Int} {A : Int × Int} (h : CmpOk n A) (h0 : 0 ≤ f) (ht : t ≤ 345686400000) (ys : List Str) : (∀ y ∈ ys, StrOk f t y) → CmpOk (n + ys.length) (cmpI W xv A ys) := by
  refine snocI (P := fun ys => (∀ y ∈ ys, StrOk f t y) → CmpOk (n + ys.length) (cmpI W xv A ys)) (fun _ => by simpa [cmpI] using h) (fun r y ih hr => ?_) ys
  rw [cmpI_snoc]
  have hy := hr y (by simp)
  unfold StrOk at hy
  have := cmpT_ok (W := W) (xv := xv) (yv := y.s.v) (a := y.a) (b := y.b) (ih (fun z hz => hr z (by simp [hz]))) ⟨by omega, by omega, by omega⟩
  rw [show n + ((r ++ [y]).length : Int) = n + r.length + 1 by simp; omega]
  exact this
theorem CmpOk.mono {n m : Int} {A : Int × Int} (h : CmpOk n A) (hm : n ≤ m) : CmpOk m A := ⟨h.1, h.2.1, by have := h.2.2; omega⟩
theorem cmpS_ok {W f t : Int} {lb : List Smp} (hS : serErr lb = 0) (h0 : 0 ≤ f) (ht : t ≤ 345686400000) (xs : List Str) : (∀ x ∈ xs, StrOk f t x) → CmpOk (xs.length * 5000) (cmpS W lb xs) := by
  refine snocI (P := fun xs => (∀ x ∈ xs, StrOk f t x) → CmpOk (xs.length * 5000) (cmpS W lb xs)) (fun _ => by simp [cmpS, CmpOk]) (fun r x ih hr => ?_) xs
  rw [cmpS_snoc]
  have hx := hr x (by simp)
  unfold StrOk at hx
  have h1 := cmpI_ok (W := W) (xv := x.s.v) (f := x.a) (t := x.b) (ih (fun z hz => hr z (by simp [hz]))) (by omega) (by omega) (valL lb x.a x.b) (valL_ok hS)
  have h2 := valL_long lb x.a x.b
  have h3 := (serErr_good hS).1
  refine h1.mono ?_
  simp only [List.length_append, List.length_singleton]
  omega
theorem cmpR_ok {W : Int} {lb : List Smp} (hS : serErr lb = 0) (xs : List Rn) : CmpOk (xs.length * 5000) (cmpR W lb xs) := by
  refine snocI (P := fun xs => CmpOk (xs.length * 5000) (cmpR W lb xs)) (by simp [cmpR, CmpOk]) (fun r x ih => ?_) xs
  rw [cmpR_snoc]
  have hx := x.2
  have h1 := cmpI_ok (W := W) (xv := x.1.1) (f := x.1.2.1) (t := x.1.2.2) ih (by omega) (by omega) (valL lb x.1.2.1 x.1.2.2) (valL_ok hS)
  have h2 := valL_long lb x.1.2.1 x.1.2.2
  have h3 := (serErr_good hS).1
  refine h1.mono ?_
  simp only [List.length_append, List.length_singleton]
  omega
theorem cmpJ_map (W xv : Int) (A : Int × Int) (f t q : Int) (h0 : 0 ≤ f) (ht : t ≤ 345686400000) (r : List Str) : (∀ x ∈ r, StrOk f t x) → cmpJ W xv A (rnsOf q r) = cmpI W xv A (r.filter fun x => decide (x.s.q ≤ q)) := by
  refine snocI (P := fun r => (∀ x ∈ r, StrOk f t x) → cmpJ W xv A (rnsOf q r) = cmpI W xv A (r.filter fun x => decide (x.s.q ≤ q))) (fun _ => rfl) (fun r x ih hr => ?_) r
  have hx := hr x (by simp)
  have ih := ih (fun y hy => hr y (by simp [hy]))
  rw [rnsOf_snoc, List.filter_append]
  unfold StrOk at hx
  have hm := mkRn_eq (v := x.s.v) (a := x.a) (b := x.b) ⟨hx.2.2.2.1, by omega⟩
  split
  · rename_i hq
    rw [cmpJ_snoc, ih, show [x].filter (fun x => decide (x.s.q ≤ q)) = [x] by simp [hq], cmpI_snoc, hm]
  · rename_i hq
    rw [ih, show [x].filter (fun x => decide (x.s.q ≤ q)) = [] by simp [hq], List.append_nil]
theorem cmpR_map (W : Int) (lb : List Smp) (f t q : Int) (h0 : 0 ≤ f) (ht : t ≤ 345686400000) (r : List Str) : (∀ x ∈ r, StrOk f t x) → cmpR W lb (rnsOf q r) = cmpS W lb (r.filter fun x => decide (x.s.q ≤ q)) := by
  refine snocI (P := fun r => (∀ x ∈ r, StrOk f t x) → cmpR W lb (rnsOf q r) = cmpS W lb (r.filter fun x => decide (x.s.q ≤ q))) (fun _ => rfl) (fun r x ih hr => ?_) r
  have hx := hr x (by simp)
  have ih := ih (fun y hy => hr y (by simp [hy]))
  rw [rnsOf_snoc, List.filter_append]
  unfold StrOk at hx
  have hm := mkRn_eq (v := x.s.v) (a := x.a) (b := x.b) ⟨hx.2.2.2.1, by omega⟩
  split
  · rename_i hq
    rw [cmpR_snoc, ih, show [x].filter (fun x => decide (x.s.q ≤ q)) = [x] by simp [hq], cmpS_snoc, hm]
  · rename_i hq
    rw [ih, show [x].filter (fun x => decide (x.s.q ≤ q)) = [] by simp [hq], List.append_nil]
def cmpV (la lb : List Smp) (f t W : Int) : Int × Int := cmpS W lb (valL la f t)
theorem cmpV_is {la lb : List Smp} {f t W : Int} (hS : serErr la = 0) (hW : 0 ≤ f ∧ f ≤ t ∧ t ≤ 345686400000) : cmpR W lb (rnsOf 1 (strL la f t)) = cmpV la lb f t W := cmpR_map W lb f t 1 hW.1 hW.2.2 _ (strL_ok hS)
theorem cmpI_is {lb : List Smp} {a b W xv : Int} {A : Int × Int} (hS : serErr lb = 0) (hW : 0 ≤ a ∧ a ≤ b ∧ b ≤ 345686400000) : cmpJ W xv A (rnsOf 1 (strL lb a b)) = cmpI W xv A (valL lb a b) := cmpJ_map W xv A a b 1 hW.1 hW.2.2 _ (strL_ok hS)
theorem cmpI_take (W xv : Int) (A : Int × Int) (r : List Str) (k : Nat) (h : k < r.length) : cmpI W xv A (r.take (k + 1)) = cmpT W (cmpI W xv A (r.take k)) xv (atT r k).s.v (atT r k).a (atT r k).b := by
  rw [List.take_succ_eq_append_getElem h, cmpI_snoc, atT_eq r k h]
theorem cmpS_take (W : Int) (lb : List Smp) (r : List Str) (k : Nat) (h : k < r.length) : cmpS W lb (r.take (k + 1)) = cmpI W (atT r k).s.v (cmpS W lb (r.take k)) (valL lb (atT r k).a (atT r k).b) := by
  rw [List.take_succ_eq_append_getElem h, cmpS_snoc, atT_eq r k h]
end Go.Proofs.Ytgbnjbbjgkfefaa
