/- slices.IndexFunc and slices.DeleteFunc at stretches, with a condition on each that is asked by a plain function. -/
import Derived.Test.YtdacdiigeainmaaStro
import Derived.Laws.CopyRow
import Derived.Laws.Tables
namespace Go.Proofs.Ytdacdiigeainmaa
open Go.RowKit
set_option linter.unusedVariables false
set_option linter.unusedSimpArgs false

def strAgg (x : Str) : Value := .agg #[.int .i64 x.a, .int .i64 x.b, .int .i64 x.s.t, .int .i64 x.s.v, .int .i64 x.s.q]
def atT (l : List Str) (i : Nat) : Str := l.getD i ⟨0, 0, ⟨0, 0, 0⟩⟩
theorem atT_eq (l : List Str) (i : Nat) (h : i < l.length) : l[i] = atT l i := by simp [atT, List.getD_eq_getElem?_getD, List.getElem?_eq_getElem h]
theorem ownT_below {w w' : World} {base : Nat} {e : TypeId} {size n : Nat} {v : Value} {xs : List Value} (h : w.ownsRow base e size v n xs) (hb : Below w.heap.size w w') : w'.ownsRow base e size v n xs := own_keep h fun b _ _ hh => hb.block b (lt_of_heap hh)
theorem own_putT {w : World} {base g cap : Nat} {e : TypeId} {l : List Str} (h : w.ownsRow base e 5 (.slice (some ⟨g, 0, none⟩) l.length cap) l.length (strCells l)) (i : Nat) (hi : i < l.length) (y : Str) :
    (((((w.setCell ⟨g, i * 5, none⟩ (.int .i64 y.a)).setCell ⟨g, i * 5 + 1, none⟩ (.int .i64 y.b)).setCell ⟨g, i * 5 + 2, none⟩ (.int .i64 y.s.t)).setCell ⟨g, i * 5 + 3, none⟩ (.int .i64 y.s.v)).setCell ⟨g, i * 5 + 4, none⟩ (.int .i64 y.s.q)).ownsRow base e 5 (.slice (some ⟨g, 0, none⟩) l.length cap) l.length (strCells (l.set i y)) := by
  have h1 := (h.stored (i * 5) (.int .i64 y.a)).1
  have h2 := (h1.stored (i * 5 + 1) (.int .i64 y.b)).1
  have h3 := (h2.stored (i * 5 + 2) (.int .i64 y.s.t)).1
  have h4 := (h3.stored (i * 5 + 3) (.int .i64 y.s.v)).1
  have h5 := (h4.stored (i * 5 + 4) (.int .i64 y.s.q)).1
  rwa [strCells_set l i hi y] at h5


/-- The function value fn with what it captured asks p of a sample: it answers, and turns nothing that was there. -/
def AsksT (w : World) (fn : FuncId) (caps : Array Value) (p : Str → Bool) : Prop :=
  ∀ (x : Str) (w' : World), Below w.heap.size w w' → Calls Try.prog fn (#[(strAgg x)] ++ caps) w' fun e w'' => e = .returned (.bool (p x)) ∧ Below w'.heap.size w' w''

/-- The index of the first sample of which p holds, from i on. -/
def idxT (p : Str → Bool) (l : List Str) (i : Nat) : Int :=
  if h : i < l.length then (if p (atT l i) = true then (i : Int) else idxT p l (i + 1)) else -1
  termination_by l.length - i

theorem idxT_end (p : Str → Bool) (l : List Str) (i : Nat) (h : l.length ≤ i) : idxT p l i = -1 := by rw [idxT.eq_def, dif_neg (by omega)]
theorem idxT_step (p : Str → Bool) (l : List Str) (i : Nat) (h : i < l.length) : idxT p l i = if p (atT l i) = true then (i : Int) else idxT p l (i + 1) := by rw [idxT.eq_def, dif_pos h]

theorem idxT_spec (p : Str → Bool) (l : List Str) (i : Nat) : (idxT p l i = -1 ∧ ∀ k, i ≤ k → k < l.length → p (atT l k) = false) ∨ (∃ n : Nat, idxT p l i = (n : Int) ∧ i ≤ n ∧ n < l.length ∧ p (atT l n) = true ∧ ∀ k, i ≤ k → k < n → p (atT l k) = false) := by
  rcases Nat.lt_or_ge i l.length with h | h
  · rw [idxT_step p l i h]
    by_cases hp : p (atT l i) = true
    · rw [if_pos hp]
      exact .inr ⟨i, rfl, Nat.le_refl _, h, hp, fun k h1 h2 => by omega⟩
    · rw [if_neg hp]
      have hp' : p (atT l i) = false := by simpa using hp
      rcases idxT_spec p l (i + 1) with ⟨h1, h2⟩ | ⟨n, h1, h2, h3, h4, h5⟩
      · exact .inl ⟨h1, fun k hk1 hk2 => by
          rcases Nat.eq_or_lt_of_le hk1 with e | e
          · rw [← e]; exact hp'
          · exact h2 k e hk2⟩
      · exact .inr ⟨n, h1, by omega, h3, h4, fun k hk1 hk2 => by
          rcases Nat.eq_or_lt_of_le hk1 with e | e
          · rw [← e]; exact hp'
          · exact h5 k e hk2⟩
  · rw [idxT_end p l i h]
    exact .inl ⟨rfl, fun k h1 h2 => by omega⟩
  termination_by l.length - i

theorem zeroCells_str (n : Nat) : (Builtin.zeroCells (Value.cells (.agg #[.int .i64 0, .int .i64 0, .int .i64 0, .int .i64 0, .int .i64 0])) n).toList = List.replicate (n * 5) (.int .i64 0) := by
  apply List.ext_getElem
  · simp [Builtin.zeroCells, Value.cells]
  · intro i h1 h2
    have h3 : i % 5 = 0 ∨ i % 5 = 1 ∨ i % 5 = 2 ∨ i % 5 = 3 ∨ i % 5 = 4 := by omega
    simp [Builtin.zeroCells, Value.cells]
    rcases h3 with h | h | h | h | h <;> simp [h]

/-- As AsksT, but blocks of the call's own may have turned. -/
def AsksBT (base : Nat) (w : World) (fn : FuncId) (caps : Array Value) (p : Str → Bool) : Prop :=
  ∀ (x : Str) (w' : World), Below base w w' → Calls Try.prog fn (#[(strAgg x)] ++ caps) w' fun e w'' => e = .returned (.bool (p x)) ∧ Below w'.heap.size w' w''

theorem filterT_all {p : Str → Bool} {l : List Str} (h : ∀ k, 0 ≤ k → k < l.length → p (atT l k) = false) : l.filter (fun x => !p x) = l := by
  rw [List.filter_eq_self]
  intro x hx
  obtain ⟨k, hk, rfl⟩ := List.getElem_of_mem hx
  rw [atT_eq l k hk, h k (Nat.zero_le _) hk]; rfl

/-- What the row holds in the loop: the kept ones of the first j, then anything, then the rest. -/
def HalfT (p : Str → Bool) (l row : List Str) (i j : Nat) : Prop :=
  row.length = l.length ∧ i < j ∧ j ≤ l.length ∧ row.take i = (l.take j).filter (fun x => !p x) ∧ row.drop j = l.drop j

theorem halfT_start (p : Str → Bool) (l : List Str) (n : Nat) (h3 : n < l.length) (h4 : p (atT l n) = true) (h5 : ∀ k, 0 ≤ k → k < n → p (atT l k) = false) : HalfT p l l n (n + 1) := by
  refine ⟨rfl, by omega, by omega, ?_, rfl⟩
  rw [List.take_succ_eq_append_getElem h3, List.filter_append, atT_eq l n h3]
  have e : (l.take n).filter (fun x => !p x) = l.take n := by
    refine filterT_all fun k h0 hk => ?_
    have hk' : k < n := by simp at hk; omega
    rw [← atT_eq _ _ hk, List.getElem_take, atT_eq l k (by omega)]
    exact h5 k h0 hk'
  rw [e]
  simp [h4]
theorem halfT_at {p : Str → Bool} {l row : List Str} {i j : Nat} (h : HalfT p l row i j) (hj : j < l.length) : row[j]? = some (atT l j) := by
  have e := congrArg (fun x => x[0]?) h.2.2.2.2
  simp only [List.getElem?_drop, Nat.add_zero] at e
  rw [e, List.getElem?_eq_getElem hj, atT_eq l j hj]
theorem halfT_skip {p : Str → Bool} {l row : List Str} {i j : Nat} (h : HalfT p l row i j) (hj : j < l.length) (hp : p (atT l j) = true) : HalfT p l row i (j + 1) := by
  obtain ⟨h1, h2, h3, h4, h5⟩ := h
  refine ⟨h1, by omega, by omega, ?_, ?_⟩
  · rw [List.take_succ_eq_append_getElem hj, List.filter_append, atT_eq l j hj, ← h4]
    simp [hp]
  · have := congrArg (List.drop 1) h5
    simpa [List.drop_drop, Nat.add_comm] using this
theorem halfT_put {p : Str → Bool} {l row : List Str} {i j : Nat} (h : HalfT p l row i j) (hj : j < l.length) (hp : p (atT l j) = false) : HalfT p l (row.set i (atT l j)) (i + 1) (j + 1) := by
  obtain ⟨h1, h2, h3, h4, h5⟩ := h
  refine ⟨by simpa using h1, by omega, by omega, ?_, ?_⟩
  · rw [List.take_succ_eq_append_getElem hj, List.filter_append, atT_eq l j hj, ← h4, List.take_succ_eq_append_getElem (by simp; omega)]
    simp [hp, List.take_set_of_le]
  · rw [List.drop_set_of_lt (by omega)]
    have := congrArg (List.drop 1) h5
    simpa [List.drop_drop, Nat.add_comm] using this
theorem halfT_end {p : Str → Bool} {l row : List Str} {i : Nat} (h : HalfT p l row i l.length) : row.take i = l.filter (fun x => !p x) := by
  have := h.2.2.2.1
  rwa [List.take_length] at this



end Go.Proofs.Ytdacdiigeainmaa
