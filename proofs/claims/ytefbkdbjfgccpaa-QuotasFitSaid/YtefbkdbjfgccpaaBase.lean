/- Samples as plain data, how they lie in memory, and what it means that a slice reads as a list. -/
import Derived.WalkKit
import Derived.Deep.Draws
import Derived.Lib.Hide
namespace Go.Proofs.Ytefbkdbjfgccpaa
open Go.RowKit
set_option linter.unusedVariables false
set_option linter.unusedSimpArgs false

structure Smp where
  t : Int
  v : Int
  q : Int
  deriving DecidableEq

def Smp.cells (x : Smp) : List Value := [.int .i64 x.t, .int .i64 x.v, .int .i64 x.q]
def Smp.agg (x : Smp) : Value := .agg #[.int .i64 x.t, .int .i64 x.v, .int .i64 x.q]
def cellsOf (l : List Smp) : List Value := l.flatMap Smp.cells

@[simp] theorem cellsOf_nil : cellsOf [] = [] := rfl
@[simp] theorem cellsOf_cons (x : Smp) (l : List Smp) : cellsOf (x :: l) = x.cells ++ cellsOf l := rfl
@[simp] theorem cellsOf_append (a b : List Smp) : cellsOf (a ++ b) = cellsOf a ++ cellsOf b := by simp [cellsOf]
theorem cellsOf_length (l : List Smp) : (cellsOf l).length = l.length * 3 := by
  induction l with
  | nil => rfl
  | cons x l ih => simp [ih, Smp.cells]; omega
theorem cellsOf_get (l : List Smp) (i : Nat) (h : i < l.length) (j : Nat) (hj : j < 3) : (cellsOf l)[i * 3 + j]? = (l[i]).cells[j]? := by
  induction l generalizing i with
  | nil => simp at h
  | cons x l ih =>
    cases i with
    | zero =>
      simp only [cellsOf_cons]
      rw [List.getElem?_append_left (by simp [Smp.cells]; omega)]
      simp
    | succ i =>
      simp only [cellsOf_cons]
      rw [List.getElem?_append_right (by simp [Smp.cells]; omega)]
      have := ih i (by simpa using h)
      simp only [List.getElem_cons_succ]
      rw [← this]
      congr 1
      simp [Smp.cells]; omega
theorem cellsOf_one (l : List Smp) : ∀ u ∈ cellsOf l, u.oneCell' = true := by
  induction l with
  | nil => simp
  | cons x l ih =>
    intro u hu
    simp only [cellsOf_cons, List.mem_append] at hu
    rcases hu with hu | hu
    · simp [Smp.cells] at hu
      rcases hu with rfl | rfl | rfl <;> rfl
    · exact ih u hu

theorem cellsOf_set (l : List Smp) (i : Nat) (h : i < l.length) (y : Smp) :
    ((((cellsOf l).set (i * 3) (.int .i64 y.t)).set (i * 3 + 1) (.int .i64 y.v)).set (i * 3 + 2) (.int .i64 y.q)) = cellsOf (l.set i y) := by
  induction l generalizing i with
  | nil => simp at h
  | cons x l ih =>
    cases i with
    | zero => simp [Smp.cells]
    | succ i =>
      have := ih i (by simpa using h)
      simp only [List.set_cons_succ, cellsOf_cons]
      rw [← this]
      have e0 : (i + 1) * 3 = i * 3 + 3 := by omega
      have e1 : (i + 1) * 3 + 1 = i * 3 + 1 + 3 := by omega
      have e2 : (i + 1) * 3 + 2 = i * 3 + 2 + 3 := by omega
      rw [e0, show i * 3 + 3 + 1 = i * 3 + 1 + 3 from by omega, show i * 3 + 3 + 2 = i * 3 + 2 + 3 from by omega]
      simp [Smp.cells]

/-- The slice v of n elements, of size cells each, of type e, reads as xs. -/
def Rd (w : World) (e : TypeId) (size : Nat) (v : Value) (n : Nat) (xs : List Value) : Prop :=
  xs.length = n * size ∧ ∃ a c, v = .slice a n c ∧ n ≤ c ∧ c ≤ maxLen ∧ (0 < n → ∃ b off cur fr, a = some ⟨b, off, none⟩ ∧ w.heap[b]? = some (.cells cur e fr) ∧ ∀ j, j < n * size → cur[off + j]? = xs[j]?)

theorem lt_of_heap {w : World} {b : Nat} {o : Obj} (h : w.heap[b]? = some o) : b < w.heap.size := by
  rcases Nat.lt_or_ge b w.heap.size with hlt | hge
  · exact hlt
  · rw [Array.getElem?_eq_none hge] at h; cases h

theorem Rd.keep {w w' : World} {e : TypeId} {size n : Nat} {v : Value} {xs : List Value} (h : Rd w e size v n xs)
    (hk : ∀ (b : Nat) (cur : Array Value) (fr : Nat × Nat), w.heap[b]? = some (Obj.cells cur e fr) → w'.heap[b]? = w.heap[b]?) : Rd w' e size v n xs := by
  obtain ⟨h1, a, c, hv, h2, h3, h4⟩ := h
  refine ⟨h1, a, c, hv, h2, h3, fun hn => ?_⟩
  obtain ⟨b, off, cur, fr, ha, hb, hc⟩ := h4 hn
  exact ⟨b, off, cur, fr, ha, (hk b cur fr hb).trans hb, hc⟩

theorem Rd.below {w w' : World} {e : TypeId} {size n : Nat} {v : Value} {xs : List Value} (h : Rd w e size v n xs) (hb : Below w.heap.size w w') : Rd w' e size v n xs :=
  h.keep fun b _ _ hh => hb.block b (lt_of_heap hh)
theorem Rd.drewN {w : World} {e : TypeId} {size n : Nat} {v : Value} {xs : List Value} (h : Rd w e size v n xs) (m : Nat) : Rd (w.drewN m) e size v n xs := h
theorem Rd.drew {w : World} {e : TypeId} {size n : Nat} {v : Value} {xs : List Value} (h : Rd w e size v n xs) : Rd w.drew e size v n xs := h
theorem Rd.alloc {w : World} {e : TypeId} {size n : Nat} {v : Value} {xs : List Value} (h : Rd w e size v n xs) (o : Obj) : Rd (w.alloc o) e size v n xs :=
  h.below ((Below.refl _ w).alloc (Nat.le_refl _) o)
/-- A store into a block of another type, or into a new one. -/
theorem Rd.setCell {w : World} {e : TypeId} {size n : Nat} {v : Value} {xs : List Value} (h : Rd w e size v n xs) (p : Addr) (u : Value)
    (hp : ∀ (cur : Array Value) (fr : Nat × Nat), w.heap[p.block]? ≠ some (Obj.cells cur e fr)) : Rd (w.setCell p u) e size v n xs :=
  h.keep fun b cur fr hh => Below.heap_setCell _ _ _ _ (fun hbp => by subst hbp; exact hp _ _ hh)
theorem Rd.nil (w : World) (e : TypeId) (size : Nat) : Rd w e size (.slice none 0 0) 0 [] := ⟨by simp, none, 0, rfl, Nat.le_refl _, by simp [maxLen], fun h => absurd h (by omega)⟩

theorem Rd.of_own {w : World} {base : Nat} {e : TypeId} {size n : Nat} {v : Value} {xs : List Value} (h : w.ownsRow base e size v n xs) : Rd w e size v n xs := by
  obtain ⟨h1, h2⟩ := h
  rcases h2 with ⟨rfl, rfl⟩ | ⟨g, cap, cur, rfl, hb, hh, hn, hm, hs, hx⟩
  · obtain rfl : xs = [] := List.eq_nil_of_length_eq_zero (by simpa using h1)
    exact Rd.nil _ _ _
  · refine ⟨h1, some ⟨g, 0, none⟩, cap, rfl, hn, hm, fun _ => ⟨g, 0, cur, (0, 0), rfl, hh, fun j hj => ?_⟩⟩
    rw [← hx, List.getElem?_take_of_lt hj]
    simp

/-- Block b is just the cells cs, of type t. -/
def Blk (w : World) (b : Nat) (t : TypeId) (cs : Array Value) : Prop := w.heap[b]? = some (Obj.cells cs t (0, 0))
theorem Blk.lt {w : World} {b : Nat} {t : TypeId} {cs : Array Value} (h : Blk w b t cs) : b < w.heap.size := lt_of_heap h
theorem Blk.cell {w : World} {b : Nat} {t : TypeId} {cs : Array Value} (h : Blk w b t cs) (i : Nat) : w.cell? ⟨b, i, none⟩ = cs[i]? := by
  unfold Blk at h; simp [World.cell?, h]
theorem Blk.frozen {w : World} {b : Nat} {t : TypeId} {cs : Array Value} (h : Blk w b t cs) (i : Nat) : w.frozen? ⟨b, i, none⟩ = false := by
  unfold Blk at h; simp [World.frozen?, h]
theorem Blk.new (w : World) (t : TypeId) (cs : Array Value) : Blk (w.alloc (.cells cs t)) w.heap.size t cs := heap_alloc_new w _
theorem Blk.below {w w' : World} {b B : Nat} {t : TypeId} {cs : Array Value} (h : Blk w b t cs) (hb : Below B w w') (hB : b < B) : Blk w' b t cs := (hb.block b hB).trans h
theorem Blk.alloc {w : World} {b : Nat} {t : TypeId} {cs : Array Value} (h : Blk w b t cs) (o : Obj) : Blk (w.alloc o) b t cs := (Below.heap_alloc w o b h.lt).trans h

/-- What the call owns stays owned while only blocks of other types, or new ones, turn. -/
theorem own_keep {w w' : World} {base : Nat} {e : TypeId} {size n : Nat} {v : Value} {xs : List Value} (h : w.ownsRow base e size v n xs)
    (hk : ∀ (b : Nat) (cur : Array Value) (fr : Nat × Nat), w.heap[b]? = some (Obj.cells cur e fr) → w'.heap[b]? = w.heap[b]?) : w'.ownsRow base e size v n xs := by
  obtain ⟨h1, h2⟩ := h
  refine ⟨h1, ?_⟩
  rcases h2 with h2 | ⟨g, cap, cur, rfl, hb, hh, hn, hm, hs, hx⟩
  · exact .inl h2
  · exact .inr ⟨g, cap, cur, rfl, hb, (hk g cur _ hh).trans hh, hn, hm, hs, hx⟩

theorem own_form {w : World} {base : Nat} {e : TypeId} {size n : Nat} {v : Value} {xs : List Value} (h : w.ownsRow base e size v n xs) (hn : 0 < n) :
    ∃ g cap, v = .slice (some ⟨g, 0, none⟩) n cap ∧ base ≤ g ∧ n ≤ cap ∧ cap ≤ maxLen := by
  obtain ⟨h1, h2⟩ := h
  rcases h2 with ⟨rfl, rfl⟩ | ⟨g, cap, cur, rfl, hb, hh, hn, hm, hs, hx⟩
  · omega
  · exact ⟨g, cap, rfl, hb, hn, hm⟩
/-- The three stores of a sample into a row of samples of the call's own. -/
theorem own_put {w : World} {base g cap : Nat} {e : TypeId} {l : List Smp} (h : w.ownsRow base e 3 (.slice (some ⟨g, 0, none⟩) l.length cap) l.length (cellsOf l)) (i : Nat) (hi : i < l.length) (y : Smp) :
    (((w.setCell ⟨g, i * 3, none⟩ (.int .i64 y.t)).setCell ⟨g, i * 3 + 1, none⟩ (.int .i64 y.v)).setCell ⟨g, i * 3 + 2, none⟩ (.int .i64 y.q)).ownsRow base e 3 (.slice (some ⟨g, 0, none⟩) l.length cap) l.length (cellsOf (l.set i y)) := by
  have h1 := (h.stored (i * 3) (.int .i64 y.t)).1
  have h2 := (h1.stored (i * 3 + 1) (.int .i64 y.v)).1
  have h3 := (h2.stored (i * 3 + 2) (.int .i64 y.q)).1
  rwa [cellsOf_set l i hi y] at h3
theorem own_cells {w : World} {base g cap n : Nat} {e : TypeId} {l : List Smp} (h : w.ownsRow base e 3 (.slice (some ⟨g, 0, none⟩) n cap) n (cellsOf l)) (hl : l.length = n) (i : Nat) (hi : i < n) :
    w.cell? ⟨g, i * 3, none⟩ = some (.int .i64 (l[i]'(by omega)).t) ∧ w.cell? ⟨g, i * 3 + 1, none⟩ = some (.int .i64 (l[i]'(by omega)).v) ∧ w.cell? ⟨g, i * 3 + 2, none⟩ = some (.int .i64 (l[i]'(by omega)).q) := by
  refine ⟨?_, ?_, ?_⟩
  · rw [h.cellAt _ (by omega)]; have := cellsOf_get l i (by omega) 0 (by omega); simpa [Smp.cells] using this
  · rw [h.cellAt _ (by omega)]; have := cellsOf_get l i (by omega) 1 (by omega); simpa [Smp.cells] using this
  · rw [h.cellAt _ (by omega)]; have := cellsOf_get l i (by omega) 2 (by omega); simpa [Smp.cells] using this

/-- The cell of an element. -/
theorem Rd.cell {w : World} {e : TypeId} {size n : Nat} {v : Value} {xs : List Value} (h : Rd w e size v n xs) (hn : 0 < n) :
    ∃ b off c, v = .slice (some ⟨b, off, none⟩) n c ∧ n ≤ c ∧ c ≤ maxLen ∧ b < w.heap.size ∧ ∀ j, j < n * size → w.cell? ⟨b, off + j, none⟩ = xs[j]? := by
  obtain ⟨h1, a, c, hv, h2, h3, h4⟩ := h
  obtain ⟨b, off, cur, fr, rfl, hb, hc⟩ := h4 hn
  exact ⟨b, off, c, hv, h2, h3, lt_of_heap hb, fun j hj => by simp [World.cell?, hb, hc j hj]⟩

/-- A slice of samples reads as l. -/
def RdS (w : World) (e : TypeId) (v : Value) (l : List Smp) : Prop := Rd w e 3 v l.length (cellsOf l)

theorem RdS.cells {w : World} {e : TypeId} {v : Value} {l : List Smp} (h : RdS w e v l) (hn : 0 < l.length) :
    ∃ b off c, v = .slice (some ⟨b, off, none⟩) l.length c ∧ l.length ≤ c ∧ c ≤ maxLen ∧ b < w.heap.size ∧ ∀ i (hi : i < l.length),
      w.cell? ⟨b, off + i * 3, none⟩ = some (.int .i64 l[i].t) ∧ w.cell? ⟨b, off + i * 3 + 1, none⟩ = some (.int .i64 l[i].v) ∧ w.cell? ⟨b, off + i * 3 + 2, none⟩ = some (.int .i64 l[i].q) := by
  obtain ⟨b, off, c, hv, h2, h3, hlt, hc⟩ := Rd.cell h hn
  refine ⟨b, off, c, hv, h2, h3, hlt, fun i hi => ⟨?_, ?_, ?_⟩⟩
  · rw [hc (i * 3) (by omega)]; have := cellsOf_get l i hi 0 (by omega); simpa [Smp.cells] using this
  · rw [Nat.add_assoc, hc (i * 3 + 1) (by omega)]; have := cellsOf_get l i hi 1 (by omega); simpa [Smp.cells] using this
  · rw [Nat.add_assoc, hc (i * 3 + 2) (by omega)]; have := cellsOf_get l i hi 2 (by omega); simpa [Smp.cells] using this
end Go.Proofs.Ytefbkdbjfgccpaa
