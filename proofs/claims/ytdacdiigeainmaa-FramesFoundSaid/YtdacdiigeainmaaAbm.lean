/- The mathematics of the windows above a limit. -/
/- joined (package query): on a row of windows of the call's own. Where the new row lies is told. -/
import Derived.Test.YtdacdiigeainmaaWdv
import Derived.Test.YtdacdiigeainmaaTwoa
import Derived.Test.YtdacdiigeainmaaDist
import Derived.Maps.AppendAt
import Derived.Deep.DeepCutAuto
import Derived.Test.YtdacdiigeainmaaVlo
namespace Go.Proofs.Ytdacdiigeainmaa
open Go.RowKit
set_option linter.unusedVariables false
set_option linter.unusedSimpArgs false

/-- append of one window that lies alone in block b, told where the new row lies. -/
theorem wpList_append_wdw2 {w : World} {ops : Array Oper} {rest : List Oper} {o : Oper} {a : Act} {Q : Exit → Act → World → Prop} (hgd : o.guard = none) (s x : Operand)
    (ho : o.op = .call { callee := .builtin .append, args := #[s, x], argTypes := #[32, 32] })
    (base : Nat) (v : Value) (n : Nat) (l : List (Int × Int)) (hs : a.eval s = v) (hown : w.ownsRow base 49 2 v n (wdwCells l)) (b : Nat) (hx : a.eval x = .slice (some ⟨b, 0, none⟩) 1 1) (y : Int × Int)
    (hb : Blk w b 49 #[.int .i64 y.1, .int .i64 y.2]) (hn : n ≤ 100000000) (hbase : base ≤ w.heap.size)
    (h : ∀ v' w', w'.ownsRow base 49 2 v' (n + 1) (wdwCells (l ++ [y])) → w.grownBy w' v.ownBlock → (∀ k, v'.ownBlock = some k → v.ownBlock = some k ∨ w.heap.size ≤ k) → wpList Try.prog ops Q rest (a.put o.dst v') w') : wpList Try.prog ops Q (o :: rest) a w := by
  obtain ⟨i0, hi0, hz0, hz1, hz2⟩ := info_parts info_wdw
  refine wpList_append_where hgd s x 32 ho base 49 i0 _ 2 16 Try.underlying32 hi0 hz0 hz1 hz2 rfl (by decide) v n _ hs hown ⟨b, 0, none⟩ 1 1 (wdwCells [y]) hx rfl ?_ ?_ ?_ ?_ hbase ?_
  · intro j u hu
    have hbb := hb.cell j
    have hj : j < 2 := by
      rcases Nat.lt_or_ge j 2 with hlt | hge
      · exact hlt
      · rw [List.getElem?_eq_none (by simp [wdwCells]; exact hge)] at hu; cases hu
    have e1 : (⟨b, 0, none⟩ : Addr).add j = ⟨b, j, none⟩ := by unfold Addr.add; split <;> simp_all
    rw [e1, hbb, ← hu]
    simp [wdwCells]
  · intro u hu
    simp [wdwCells] at hu
    rcases hu with rfl | rfl <;> rfl
  · simp only [maxLen]; omega
  · omega
  · intro v' w' h1 h2 h3
    exact h v' w' (by rw [wdwCells_append]; exact h1) h2 h3

theorem blk_new_at2 (W : World) (t : TypeId) (cs : Array Value) (n : Nat) (h : W.heap.size = n) : Blk (W.alloc (.cells cs t)) n t cs := by rw [← h]; exact Blk.new W t cs

/-- What joined makes of windows: a further one, or the last one longer. -/
def jnF (l : List (Int × Int)) (a b : Int) : List (Int × Int) :=
  if l = [] ∨ (l.getD (l.length - 1) (0, 0)).2 < a then l ++ [(a, b)] else l.set (l.length - 1) ((l.getD (l.length - 1) (0, 0)).1, b)
theorem jnF_long (l : List (Int × Int)) (a b : Int) : (jnF l a b).length ≤ l.length + 1 := by unfold jnF; split <;> simp

/-- How joined ends. -/
def JnEnd (base : Nat) (v : Value) (l : List (Int × Int)) (w : World) (e : Ending) (w' : World) : Prop :=
  ∃ g n c, e = .returned (.slice (some ⟨g, 0, none⟩) n c) ∧ n = l.length ∧ w'.ownsRow base 49 2 (.slice (some ⟨g, 0, none⟩) n c) n (wdwCells l) ∧ w.grownBy w' v.ownBlock ∧ (v.ownBlock = some g ∨ w.heap.size ≤ g)

end Go.Proofs.Ytdacdiigeainmaa
namespace Go.Proofs.Ytdacdiigeainmaa
open Go.RowKit
set_option linter.unusedVariables false
set_option linter.unusedSimpArgs false

def abT (L : Int) (A : List (Int × Int) × Int) (v a b : Int) : List (Int × Int) × Int := if L < v then (jnF A.1 a b, A.2 + (b - a)) else A
def abR (L : Int) (r : List Rn) : List (Int × Int) × Int := r.foldl (fun A x => abT L A x.1.1 x.1.2.1 x.1.2.2) ([], 0)
def abS (L : Int) (r : List Str) : List (Int × Int) × Int := r.foldl (fun A x => abT L A x.s.v x.a x.b) ([], 0)
theorem abR_snoc (L : Int) (r : List Rn) (x : Rn) : abR L (r ++ [x]) = abT L (abR L r) x.1.1 x.1.2.1 x.1.2.2 := by simp [abR]
theorem abS_snoc (L : Int) (r : List Str) (x : Str) : abS L (r ++ [x]) = abT L (abS L r) x.s.v x.a x.b := by simp [abS]
theorem abR_long (L : Int) (r : List Rn) : (abR L r).1.length ≤ r.length ∧ 0 ≤ (abR L r).2 ∧ (abR L r).2 ≤ r.length * 345686400000 := by
  refine snocI (P := fun r => (abR L r).1.length ≤ r.length ∧ 0 ≤ (abR L r).2 ∧ (abR L r).2 ≤ r.length * 345686400000) (by simp [abR]) (fun r x ih => ?_) r
  rw [abR_snoc]
  have h := x.2
  unfold abT
  split
  · have := jnF_long (abR L r).1 x.1.2.1 x.1.2.2
    simp only [List.length_append, List.length_singleton]
    omega
  · simp only [List.length_append, List.length_singleton]
    omega
theorem abS_long (L : Int) {f t : Int} (h0 : 0 ≤ f) (ht : t ≤ 345686400000) (r : List Str) : (∀ x ∈ r, StrOk f t x) → (abS L r).1.length ≤ r.length ∧ 0 ≤ (abS L r).2 ∧ (abS L r).2 ≤ r.length * 345686400000 := by
  refine snocI (P := fun r => (∀ x ∈ r, StrOk f t x) → (abS L r).1.length ≤ r.length ∧ 0 ≤ (abS L r).2 ∧ (abS L r).2 ≤ r.length * 345686400000) (fun _ => by simp [abS]) (fun r x ih hr => ?_) r
  rw [abS_snoc]
  have ih := ih (fun y hy => hr y (by simp [hy]))
  have h := hr x (by simp)
  unfold StrOk at h
  unfold abT
  split
  · have := jnF_long (abS L r).1 x.a x.b
    simp only [List.length_append, List.length_singleton]
    omega
  · simp only [List.length_append, List.length_singleton]
    omega
theorem abR_map (f t q L : Int) (h0 : 0 ≤ f) (ht : t ≤ 345686400000) (r : List Str) : (∀ x ∈ r, StrOk f t x) → abR L (rnsOf q r) = abS L (r.filter fun x => decide (x.s.q ≤ q)) := by
  refine snocI (P := fun r => (∀ x ∈ r, StrOk f t x) → abR L (rnsOf q r) = abS L (r.filter fun x => decide (x.s.q ≤ q))) (fun _ => rfl) (fun r x ih hr => ?_) r
  have hx := hr x (by simp)
  have ih := ih (fun y hy => hr y (by simp [hy]))
  rw [rnsOf_snoc, List.filter_append]
  unfold StrOk at hx
  have hm := mkRn_eq (v := x.s.v) (a := x.a) (b := x.b) ⟨hx.2.2.2.1, by omega⟩
  split
  · rename_i hq
    rw [abR_snoc, ih, show [x].filter (fun x => decide (x.s.q ≤ q)) = [x] by simp [hq], abS_snoc, hm]
  · rename_i hq
    rw [ih, show [x].filter (fun x => decide (x.s.q ≤ q)) = [] by simp [hq], List.append_nil]

def aboV (l : List Smp) (f t L : Int) : List (Int × Int) × Int := abS L (valL l f t)
theorem aboV_is {l : List Smp} {f t L : Int} (hS : serErr l = 0) (hW : 0 ≤ f ∧ f ≤ t ∧ t ≤ 345686400000) : abR L (rnsOf 1 (strL l f t)) = aboV l f t L := abR_map f t 1 L hW.1 hW.2.2 _ (strL_ok hS)

theorem jnF_le {l : List (Int × Int)} {a b p : Int} (h : ∀ w ∈ l, w.2 ≤ p) (hb : b ≤ p) : ∀ w ∈ jnF l a b, w.2 ≤ p := by
  intro w hw
  unfold jnF at hw
  split at hw
  · rw [List.mem_append] at hw
    rcases hw with hw | hw
    · exact h w hw
    · simp only [List.mem_singleton] at hw; subst hw; exact hb
  · rcases List.mem_or_eq_of_mem_set hw with hw | hw
    · exact h w hw
    · subst hw; exact hb
theorem abS_le (L p : Int) (r : List Str) : (∀ x ∈ r, x.b ≤ p) → ∀ w ∈ (abS L r).1, w.2 ≤ p := by
  refine snocI (P := fun r => (∀ x ∈ r, x.b ≤ p) → ∀ w ∈ (abS L r).1, w.2 ≤ p) (fun _ w hw => by simp [abS] at hw) (fun r x ih hr => ?_) r
  rw [abS_snoc]
  unfold abT
  split
  · exact jnF_le (ih (fun y hy => hr y (by simp [hy]))) (hr x (by simp))
  · exact ih (fun y hy => hr y (by simp [hy]))
theorem chain_before {p : Int} {r : List Str} (h : Chain p r) (k : Nat) (hk : k < r.length) : p ≤ (atT r k).a ∧ ∀ x ∈ r.take k, x.b ≤ (atT r k).a := by
  induction r generalizing p k with
  | nil => simp at hk
  | cons y r ih =>
    cases k with
    | zero => exact ⟨h.1, fun x hx => by simp at hx⟩
    | succ k =>
      have h1 := ih h.2.2 k (by simpa using hk)
      have e : atT (y :: r) (k + 1) = atT r k := by simp [atT]
      rw [e]
      have hy := h.2.1
      have hp := h.1
      refine ⟨by omega, fun x hx => ?_⟩
      rw [List.take_succ_cons, List.mem_cons] at hx
      rcases hx with rfl | hx
      · exact h1.1
      · exact h1.2 x hx
theorem abS_take (L : Int) (r : List Str) (k : Nat) (h : k < r.length) : abS L (r.take (k + 1)) = abT L (abS L (r.take k)) (atT r k).s.v (atT r k).a (atT r k).b := by
  rw [List.take_succ_eq_append_getElem h, abS_snoc, atT_eq r k h]
/-- The reference asks whether the last window ends just there. -/
theorem jnF_ref {l : List (Int × Int)} {a b : Int} (h : ∀ w ∈ l, w.2 ≤ a) : jnF l a b = if l ≠ [] ∧ (l.getD (l.length - 1) (0, 0)).2 = a then l.set (l.length - 1) ((l.getD (l.length - 1) (0, 0)).1, b) else l ++ [(a, b)] := by
  unfold jnF
  by_cases hl : l = []
  · rw [if_pos (.inl hl), if_neg (fun h => h.1 hl)]
  · have hlt : l.length - 1 < l.length := by have := List.length_pos_iff.2 hl; omega
    have hm : (l.getD (l.length - 1) (0, 0)).2 ≤ a := by
      refine h _ ?_
      simp only [List.getD_eq_getElem?_getD, List.getElem?_eq_getElem hlt, Option.getD_some]
      exact List.getElem_mem hlt
    by_cases he : (l.getD (l.length - 1) (0, 0)).2 = a
    · rw [if_neg (by rintro (h | h); · exact hl h
                     · omega), if_pos ⟨hl, he⟩]
    · rw [if_pos (.inr (by omega)), if_neg (fun h => he h.2)]
end Go.Proofs.Ytdacdiigeainmaa
