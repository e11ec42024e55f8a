/- The contract of slices.DeleteFunc at samples. -/
import Derived.Test.YtjkncmhmmafmjaaDel
import Derived.Test.YtjkncmhmmafmjaaScaled
namespace Go.Proofs.Ytjkncmhmmafmjaa
open Go.RowKit
set_option linter.unusedVariables false
set_option linter.unusedSimpArgs false

theorem smp_zero (w : World) : (zeroValue 27).run Try.prog w = .ok (.agg #[.int .i64 0, .int .i64 0, .int .i64 0]) w := by kernel_rfl

theorem zeroCells_smp (n : Nat) : (Builtin.zeroCells (Value.cells (.agg #[.int .i64 0, .int .i64 0, .int .i64 0])) n).toList = List.replicate (n * 3) (.int .i64 0) := by
  apply List.ext_getElem
  · simp [Builtin.zeroCells, Value.cells]
  · intro i h1 h2
    have h3 : i % 3 = 0 ∨ i % 3 = 1 ∨ i % 3 = 2 := by omega
    simp [Builtin.zeroCells, Value.cells]
    rcases h3 with h | h | h <;> simp [h]

/-- clear of a slice of samples: only its own block turns, and of that only its own cells. -/
theorem run_clear_smp (w : World) (ty : TypeId) (g i n c : Nat) (cur : Array Value) (hg : w.heap[g]? = some (.cells cur 27 (0, 0))) (hn : 0 < n) (hl : (i + n) * 3 ≤ cur.size) :
    ∃ w', (Builtin.clear_ #[29] ty #[.slice (some ⟨g, i * 3, none⟩) n c]).run Try.prog w = .ok (.tuple #[]) w' ∧ (∃ cur' : Array Value, w'.heap[g]? = some (.cells cur' 27 (0, 0)) ∧ ∀ j, j < i * 3 → cur'[j]? = cur[j]?) ∧ w.grownBy w' (some g) := by
  have hst := run_storeCells_at (P := Try.prog) g (i * 3) 27 (List.replicate (n * 3) (.int .i64 0)) 0 cur w hg (by simp; omega) (fun v hv => by rw [List.eq_of_mem_replicate hv]; rfl)
  obtain ⟨m, rfl⟩ : ∃ m, n = m + 1 := ⟨n - 1, by omega⟩
  obtain ⟨N, hN⟩ : ∃ N : Array Value, N = (cur.toList.take (i * 3 + 0) ++ List.replicate ((m + 1) * 3) (Value.int .i64 0) ++ cur.toList.drop (i * 3 + 0 + (List.replicate ((m + 1) * 3) (Value.int .i64 0)).length)).toArray := ⟨_, rfl⟩
  rw [← hN] at hst
  refine ⟨w.setRow g N, ?_, ⟨N, setRow_heap w g cur N _ _ hg, ?_⟩, ?_⟩
  · simp [Builtin.clear_, run_underlying Try.underlying29, smp_zero, zeroCells_smp, hst]
  · intro j hj
    rw [hN]
    simp only [List.getElem?_toArray]
    rw [List.append_assoc, List.getElem?_append_left (by simp; omega), List.getElem?_take_of_lt (by omega)]
    simp
  · exact ⟨rfl, rfl, rfl, by simp, fun k hk hne => setRow_other w g k N (fun e => hne (by rw [e]))⟩

/-- clear of a slice of samples, as a step. -/
theorem wpList_clear_smp {w : World} {ops : Array Oper} {rest : List Oper} {o : Oper} {a : Act} {Q : Exit → Act → World → Prop} (hgd : o.guard = none) (x : Operand)
    (ho : o.op = .call { callee := .builtin .clear, args := #[x], argTypes := #[29] }) (g i off n c : Nat) (cur : Array Value) (hx : a.eval x = .slice (some ⟨g, off, none⟩) n c) (hoff : off = i * 3)
    (hg : w.heap[g]? = some (.cells cur 27 (0, 0))) (hn : 0 < n) (hl : (i + n) * 3 ≤ cur.size)
    (h : ∀ w', (∃ cur' : Array Value, w'.heap[g]? = some (.cells cur' 27 (0, 0)) ∧ ∀ j, j < i * 3 → cur'[j]? = cur[j]?) → w.grownBy w' (some g) → wpList Try.prog ops Q rest (a.put o.dst (.tuple #[])) w') : wpList Try.prog ops Q (o :: rest) a w := by
  subst hoff
  refine wpList_plain hgd fun K hK => ?_
  obtain ⟨w', hr, h1, h2⟩ := run_clear_smp w o.type g i n c cur hg hn hl
  unfold Oper.wp execOp
  simp only [ho, resolve, invoke, builtin, Sem.run_bind, Sem.run_pure, Result.andThen_ok, List.map_toArray, List.map_cons, List.map_nil, hx, hr]
  exact hK _ _ (h w' h1 h2)

/-- As Asks, but blocks of the call's own may have turned. -/
def AsksB (base : Nat) (w : World) (fn : FuncId) (caps : Array Value) (p : Smp → Bool) : Prop :=
  ∀ (x : Smp) (w' : World), Below base w w' → Calls Try.prog fn (#[x.agg] ++ caps) w' fun e w'' => e = .returned (.bool (p x)) ∧ Below w'.heap.size w' w''

theorem filter_all {p : Smp → Bool} {l : List Smp} (h : ∀ k, 0 ≤ k → k < l.length → p (atS l k) = false) : l.filter (fun x => !p x) = l := by
  rw [List.filter_eq_self]
  intro x hx
  obtain ⟨k, hk, rfl⟩ := List.getElem_of_mem hx
  rw [atS_eq l k hk, h k (Nat.zero_le _) hk]; rfl

/-- What the row holds in the loop: the kept ones of the first j, then anything, then the rest. -/
def Half (p : Smp → Bool) (l row : List Smp) (i j : Nat) : Prop :=
  row.length = l.length ∧ i < j ∧ j ≤ l.length ∧ row.take i = (l.take j).filter (fun x => !p x) ∧ row.drop j = l.drop j

theorem half_start (p : Smp → Bool) (l : List Smp) (n : Nat) (h3 : n < l.length) (h4 : p (atS l n) = true) (h5 : ∀ k, 0 ≤ k → k < n → p (atS l k) = false) : Half p l l n (n + 1) := by
  refine ⟨rfl, by omega, by omega, ?_, rfl⟩
  rw [List.take_succ_eq_append_getElem h3, List.filter_append, atS_eq l n h3]
  have e : (l.take n).filter (fun x => !p x) = l.take n := by
    refine filter_all fun k h0 hk => ?_
    have hk' : k < n := by simp at hk; omega
    rw [← atS_eq _ _ hk, List.getElem_take, atS_eq l k (by omega)]
    exact h5 k h0 hk'
  rw [e]
  simp [h4]
theorem half_at {p : Smp → Bool} {l row : List Smp} {i j : Nat} (h : Half p l row i j) (hj : j < l.length) : row[j]? = some (atS l j) := by
  have e := congrArg (fun x => x[0]?) h.2.2.2.2
  simp only [List.getElem?_drop, Nat.add_zero] at e
  rw [e, List.getElem?_eq_getElem hj, atS_eq l j hj]
theorem half_skip {p : Smp → Bool} {l row : List Smp} {i j : Nat} (h : Half p l row i j) (hj : j < l.length) (hp : p (atS l j) = true) : Half p l row i (j + 1) := by
  obtain ⟨h1, h2, h3, h4, h5⟩ := h
  refine ⟨h1, by omega, by omega, ?_, ?_⟩
  · rw [List.take_succ_eq_append_getElem hj, List.filter_append, atS_eq l j hj, ← h4]
    simp [hp]
  · have := congrArg (List.drop 1) h5
    simpa [List.drop_drop, Nat.add_comm] using this
theorem half_put {p : Smp → Bool} {l row : List Smp} {i j : Nat} (h : Half p l row i j) (hj : j < l.length) (hp : p (atS l j) = false) : Half p l (row.set i (atS l j)) (i + 1) (j + 1) := by
  obtain ⟨h1, h2, h3, h4, h5⟩ := h
  refine ⟨by simpa using h1, by omega, by omega, ?_, ?_⟩
  · rw [List.take_succ_eq_append_getElem hj, List.filter_append, atS_eq l j hj, ← h4, List.take_succ_eq_append_getElem (by simp; omega)]
    simp [hp, List.take_set_of_le]
  · rw [List.drop_set_of_lt (by omega)]
    have := congrArg (List.drop 1) h5
    simpa [List.drop_drop, Nat.add_comm] using this
theorem half_end {p : Smp → Bool} {l row : List Smp} {i : Nat} (h : Half p l row i l.length) : row.take i = l.filter (fun x => !p x) := by
  have := h.2.2.2.1
  rwa [List.take_length] at this

end Go.Proofs.Ytjkncmhmmafmjaa
