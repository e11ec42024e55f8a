/- Slices of stretches: cells, append of one, reading. No condition beyond the contracts'. -/
import Derived.Test.YtamcbiajicnbfaaStrl
import Derived.Test.YtamcbiajicnbfaaApp
import Derived.OwnWalkIn
namespace Go.Proofs.Ytamcbiajicnbfaa
open Go.RowKit
set_option linter.unusedVariables false
set_option linter.unusedSimpArgs false

def strCells (l : List Str) : List Value := l.flatMap fun p => [.int .i64 p.a, .int .i64 p.b, .int .i64 p.s.t, .int .i64 p.s.v, .int .i64 p.s.q]
theorem strCells_append (a b : List Str) : strCells (a ++ b) = strCells a ++ strCells b := by simp [strCells]
theorem strCells_length (l : List Str) : (strCells l).length = l.length * 5 := by
  induction l with
  | nil => rfl
  | cons x l ih => simp [strCells] at ih ⊢; omega
theorem strCells_get (l : List Str) (i : Nat) (h : i < l.length) : (strCells l)[i * 5]? = some (.int .i64 l[i].a) ∧ (strCells l)[i * 5 + 1]? = some (.int .i64 l[i].b) ∧ (strCells l)[i * 5 + 2]? = some (.int .i64 l[i].s.t) ∧ (strCells l)[i * 5 + 3]? = some (.int .i64 l[i].s.v) ∧ (strCells l)[i * 5 + 4]? = some (.int .i64 l[i].s.q) := by
  induction l generalizing i with
  | nil => simp at h
  | cons x l ih =>
    cases i with
    | zero => simp [strCells]
    | succ i =>
      have := ih i (by simpa using h)
      rw [show (i + 1) * 5 = i * 5 + 5 from by omega, show i * 5 + 5 + 1 = i * 5 + 1 + 5 from by omega, show i * 5 + 5 + 2 = i * 5 + 2 + 5 from by omega, show i * 5 + 5 + 3 = i * 5 + 3 + 5 from by omega, show i * 5 + 5 + 4 = i * 5 + 4 + 5 from by omega]
      simpa [strCells] using this
theorem info_str : (Try.prog.info? 192).map (fun i => (i.zero, i.size, i.bytes)) = some (some (.agg #[.int .i64 0, .int .i64 0, .int .i64 0, .int .i64 0, .int .i64 0]), 5, 40) := by kernel_rfl
/-- append of one record that lies alone in block b. -/
theorem wpList_append_str {w : World} {ops : Array Oper} {rest : List Oper} {o : Oper} {a : Act} {Q : Exit → Act → World → Prop} (hgd : o.guard = none) (s x : Operand)
    (ho : o.op = .call { callee := .builtin .append, args := #[s, x], argTypes := #[189, 189] })
    (base : Nat) (v : Value) (n : Nat) (l : List Str) (hs : a.eval s = v) (hown : w.ownsRow base 192 5 v n (strCells l)) (b : Nat) (hx : a.eval x = .slice (some ⟨b, 0, none⟩) 1 1) (y : Str)
    (hb : Blk w b 192 #[.int .i64 y.a, .int .i64 y.b, .int .i64 y.s.t, .int .i64 y.s.v, .int .i64 y.s.q]) (hn : n ≤ 100000000) (hbase : base ≤ w.heap.size)
    (h : ∀ v' w', w'.ownsRow base 192 5 v' (n + 1) (strCells (l ++ [y])) → w.grownBy w' v.ownBlock → wpList Try.prog ops Q rest (a.put o.dst v') w') : wpList Try.prog ops Q (o :: rest) a w := by
  obtain ⟨i0, hi0, hz0, hz1, hz2⟩ := info_parts info_str
  refine wpList_append_own w hgd s x 189 ho base 192 i0 _ 5 40 Try.underlying189 hi0 hz0 hz1 hz2 rfl (by decide) v n _ hs hown ⟨b, 0, none⟩ 1 1 (strCells [y]) hx rfl ?_ ?_ ?_ ?_ hbase ?_
  · intro j u hu
    have hbb := hb.cell j
    have hj : j < 5 := by
      rcases Nat.lt_or_ge j 5 with hlt | hge
      · exact hlt
      · rw [List.getElem?_eq_none (by simp [strCells]; exact hge)] at hu; cases hu
    have e1 : (⟨b, 0, none⟩ : Addr).add j = ⟨b, j, none⟩ := by unfold Addr.add; split <;> simp_all
    rw [e1, hbb, ← hu]
    simp [strCells]
  · intro u hu
    simp [strCells] at hu
    rcases hu with rfl | rfl | rfl | rfl | rfl <;> rfl
  · simp only [maxLen]; omega
  · omega
  · intro v' w' h1 h2 _
    exact h v' w' (by rw [strCells_append]; exact h1) h2
/-- append of one record that lies alone in block b, inside a fence. -/
theorem wpListIn_append_str {F : Fence} {nn : Nat} {w : World} {ops : Array Oper} {rest : List Oper} {o : Oper} {a : Act} {Q : Exit → Act → World → Prop} (hgd : o.guard = none) (s x : Operand)
    (ho : o.op = .call { callee := .builtin .append, args := #[s, x], argTypes := #[189, 189] })
    (base : Nat) (v : Value) (n : Nat) (l : List Str) (hs : a.eval s = v) (hown : w.ownsRow base 192 5 v n (strCells l)) (b : Nat) (hx : a.eval x = .slice (some ⟨b, 0, none⟩) 1 1) (y : Str)
    (hb : Blk w b 192 #[.int .i64 y.a, .int .i64 y.b, .int .i64 y.s.t, .int .i64 y.s.v, .int .i64 y.s.q]) (hn : n ≤ 100000000) (hbase : base ≤ w.heap.size)
    (h : ∀ v' w', w'.ownsRow base 192 5 v' (n + 1) (strCells (l ++ [y])) → w.grownBy w' v.ownBlock → wpListIn F nn Try.prog ops Q rest (a.put o.dst v') w') : wpListIn F nn Try.prog ops Q (o :: rest) a w := by
  obtain ⟨i0, hi0, hz0, hz1, hz2⟩ := info_parts info_str
  refine wpListIn_append_own w hgd s x 189 ho base 192 i0 _ 5 40 Try.underlying189 hi0 hz0 hz1 hz2 rfl (by decide) v n _ hs hown ⟨b, 0, none⟩ 1 1 (strCells [y]) hx rfl ?_ ?_ ?_ ?_ hbase ?_
  · intro j u hu
    have hbb := hb.cell j
    have hj : j < 5 := by
      rcases Nat.lt_or_ge j 5 with hlt | hge
      · exact hlt
      · rw [List.getElem?_eq_none (by simp [strCells]; exact hge)] at hu; cases hu
    have e1 : (⟨b, 0, none⟩ : Addr).add j = ⟨b, j, none⟩ := by unfold Addr.add; split <;> simp_all
    rw [e1, hbb, ← hu]
    simp [strCells]
  · intro u hu
    simp [strCells] at hu
    rcases hu with rfl | rfl | rfl | rfl | rfl <;> rfl
  · simp only [maxLen]; omega
  · omega
  · intro v' w' h1 h2 _
    exact h v' w' (by rw [strCells_append]; exact h1) h2

/-- A slice of these records reads as l. -/
def RdStr (w : World) (v : Value) (l : List Str) : Prop := Rd w 192 5 v l.length (strCells l)
theorem RdStr.cells {w : World} {v : Value} {l : List Str} (h : RdStr w v l) (hn : 0 < l.length) :
    ∃ b off c, v = .slice (some ⟨b, off, none⟩) l.length c ∧ l.length ≤ c ∧ c ≤ maxLen ∧ b < w.heap.size ∧ ∀ i (hi : i < l.length), w.cell? ⟨b, off + i * 5, none⟩ = some (.int .i64 l[i].a) ∧ w.cell? ⟨b, off + i * 5 + 1, none⟩ = some (.int .i64 l[i].b) ∧ w.cell? ⟨b, off + i * 5 + 2, none⟩ = some (.int .i64 l[i].s.t) ∧ w.cell? ⟨b, off + i * 5 + 3, none⟩ = some (.int .i64 l[i].s.v) ∧ w.cell? ⟨b, off + i * 5 + 4, none⟩ = some (.int .i64 l[i].s.q) := by
  obtain ⟨b, off, c, hv, h2, h3, hlt, hc⟩ := Rd.cell h hn
  refine ⟨b, off, c, hv, h2, h3, hlt, fun i hi => ?_⟩
  obtain ⟨e0, e1, e2, e3, e4⟩ := strCells_get l i hi
  have g1 := hc (i * 5 + 1) (by omega)
  have g2 := hc (i * 5 + 2) (by omega)
  have g3 := hc (i * 5 + 3) (by omega)
  have g4 := hc (i * 5 + 4) (by omega)
  exact ⟨by rw [hc (i * 5) (by omega), e0], by rw [Nat.add_assoc, g1, e1], by rw [Nat.add_assoc, g2, e2], by rw [Nat.add_assoc, g3, e3], by rw [Nat.add_assoc, g4, e4]⟩
theorem RdStr.lenv {w : World} {v : Value} {l : List Str} (h : RdStr w v l) : ∃ pa ca, v = .slice pa l.length ca := by obtain ⟨_, pa, ca, rfl, _⟩ := h; exact ⟨pa, ca, rfl⟩
theorem own_str {w : World} {base g c n : Nat} {l : List Str} (h : w.ownsRow base 192 5 (.slice (some ⟨g, 0, none⟩) n c) n (strCells l)) (hl : l.length = n) (i : Nat) (hi : i < n) :
    w.cell? ⟨g, i * 5, none⟩ = some (.int .i64 (l[i]'(by omega)).a) ∧ w.cell? ⟨g, i * 5 + 1, none⟩ = some (.int .i64 (l[i]'(by omega)).b) ∧ w.cell? ⟨g, i * 5 + 2, none⟩ = some (.int .i64 (l[i]'(by omega)).s.t) ∧ w.cell? ⟨g, i * 5 + 3, none⟩ = some (.int .i64 (l[i]'(by omega)).s.v) ∧ w.cell? ⟨g, i * 5 + 4, none⟩ = some (.int .i64 (l[i]'(by omega)).s.q) := by
  obtain ⟨e0, e1, e2, e3, e4⟩ := strCells_get l i (by omega)
  exact ⟨by rw [h.cellAt _ (by omega), e0], by rw [h.cellAt _ (by omega), e1], by rw [h.cellAt _ (by omega), e2], by rw [h.cellAt _ (by omega), e3], by rw [h.cellAt _ (by omega), e4]⟩
theorem strCells_set (l : List Str) (i : Nat) (h : i < l.length) (y : Str) : (((((strCells l).set (i * 5) (.int .i64 y.a)).set (i * 5 + 1) (.int .i64 y.b)).set (i * 5 + 2) (.int .i64 y.s.t)).set (i * 5 + 3) (.int .i64 y.s.v)).set (i * 5 + 4) (.int .i64 y.s.q) = strCells (l.set i y) := by
  induction l generalizing i with
  | nil => simp at h
  | cons x l ih =>
    cases i with
    | zero => simp [strCells]
    | succ i =>
      have := ih i (by simpa using h)
      simp only [List.set_cons_succ]
      have e : ∀ (x : Str) (l : List Str), strCells (x :: l) = [.int .i64 x.a, .int .i64 x.b, .int .i64 x.s.t, .int .i64 x.s.v, .int .i64 x.s.q] ++ strCells l := fun _ _ => by simp [strCells]
      rw [e, e, ← this, show (i + 1) * 5 = i * 5 + 5 from by omega, show i * 5 + 5 + 1 = i * 5 + 1 + 5 from by omega, show i * 5 + 5 + 2 = i * 5 + 2 + 5 from by omega, show i * 5 + 5 + 3 = i * 5 + 3 + 5 from by omega, show i * 5 + 5 + 4 = i * 5 + 4 + 5 from by omega]
      simp
end Go.Proofs.Ytamcbiajicnbfaa
