/- bins: cells, append of one, reading. No condition beyond the contracts'. -/
import Derived.Test.YtefbkdbjfgccpaaBnm
import Derived.Test.YtefbkdbjfgccpaaApp
import Derived.OwnWalkIn
namespace Go.Proofs.Ytefbkdbjfgccpaa
open Go.RowKit
set_option linter.unusedVariables false
set_option linter.unusedSimpArgs false

def binCells (l : List Bin) : List Value := l.flatMap fun p => [.int .i64 p.f, .int .i64 p.s, .int .i64 p.c, .int .i64 p.o, .int .i64 p.lo, .int .i64 p.hi]
theorem binCells_append (a b : List Bin) : binCells (a ++ b) = binCells a ++ binCells b := by simp [binCells]
theorem binCells_length (l : List Bin) : (binCells l).length = l.length * 6 := by
  induction l with
  | nil => rfl
  | cons x l ih => simp [binCells] at ih ⊢; omega
theorem binCells_get (l : List Bin) (i : Nat) (h : i < l.length) : (binCells l)[i * 6]? = some (.int .i64 l[i].f) ∧ (binCells l)[i * 6 + 1]? = some (.int .i64 l[i].s) ∧ (binCells l)[i * 6 + 2]? = some (.int .i64 l[i].c) ∧ (binCells l)[i * 6 + 3]? = some (.int .i64 l[i].o) ∧ (binCells l)[i * 6 + 4]? = some (.int .i64 l[i].lo) ∧ (binCells l)[i * 6 + 5]? = some (.int .i64 l[i].hi) := by
  induction l generalizing i with
  | nil => simp at h
  | cons x l ih =>
    cases i with
    | zero => simp [binCells]
    | succ i =>
      have := ih i (by simpa using h)
      rw [show (i + 1) * 6 = i * 6 + 6 from by omega, show i * 6 + 6 + 1 = i * 6 + 1 + 6 from by omega, show i * 6 + 6 + 2 = i * 6 + 2 + 6 from by omega, show i * 6 + 6 + 3 = i * 6 + 3 + 6 from by omega, show i * 6 + 6 + 4 = i * 6 + 4 + 6 from by omega, show i * 6 + 6 + 5 = i * 6 + 5 + 6 from by omega]
      simpa [binCells] using this
theorem info_bin : (Try.prog.info? 59).map (fun i => (i.zero, i.size, i.bytes)) = some (some (.agg #[.int .i64 0, .int .i64 0, .int .i64 0, .int .i64 0, .int .i64 0, .int .i64 0]), 6, 48) := by kernel_rfl
/-- append of one record that lies alone in block b. -/
theorem wpList_append_bin {w : World} {ops : Array Oper} {rest : List Oper} {o : Oper} {a : Act} {Q : Exit → Act → World → Prop} (hgd : o.guard = none) (s x : Operand)
    (ho : o.op = .call { callee := .builtin .append, args := #[s, x], argTypes := #[52, 52] })
    (base : Nat) (v : Value) (n : Nat) (l : List Bin) (hs : a.eval s = v) (hown : w.ownsRow base 59 6 v n (binCells l)) (b : Nat) (hx : a.eval x = .slice (some ⟨b, 0, none⟩) 1 1) (y : Bin)
    (hb : Blk w b 59 #[.int .i64 y.f, .int .i64 y.s, .int .i64 y.c, .int .i64 y.o, .int .i64 y.lo, .int .i64 y.hi]) (hn : n ≤ 100000000) (hbase : base ≤ w.heap.size)
    (h : ∀ v' w', w'.ownsRow base 59 6 v' (n + 1) (binCells (l ++ [y])) → w.grownBy w' v.ownBlock → wpList Try.prog ops Q rest (a.put o.dst v') w') : wpList Try.prog ops Q (o :: rest) a w := by
  obtain ⟨i0, hi0, hz0, hz1, hz2⟩ := info_parts info_bin
  refine wpList_append_own w hgd s x 52 ho base 59 i0 _ 6 48 Try.underlying52 hi0 hz0 hz1 hz2 rfl (by decide) v n _ hs hown ⟨b, 0, none⟩ 1 1 (binCells [y]) hx rfl ?_ ?_ ?_ ?_ hbase ?_
  · intro j u hu
    have hbb := hb.cell j
    have hj : j < 6 := by
      rcases Nat.lt_or_ge j 6 with hlt | hge
      · exact hlt
      · rw [List.getElem?_eq_none (by simp [binCells]; exact hge)] at hu; cases hu
    have e1 : (⟨b, 0, none⟩ : Addr).add j = ⟨b, j, none⟩ := by unfold Addr.add; split <;> simp_all
    rw [e1, hbb, ← hu]
    simp [binCells]
  · intro u hu
    simp [binCells] at hu
    rcases hu with rfl | rfl | rfl | rfl | rfl | rfl <;> rfl
  · simp only [maxLen]; omega
  · omega
  · intro v' w' h1 h2 _
    exact h v' w' (by rw [binCells_append]; exact h1) h2
/-- append of one record that lies alone in block b, inside a fence. -/
theorem wpListIn_append_bin {F : Fence} {nn : Nat} {w : World} {ops : Array Oper} {rest : List Oper} {o : Oper} {a : Act} {Q : Exit → Act → World → Prop} (hgd : o.guard = none) (s x : Operand)
    (ho : o.op = .call { callee := .builtin .append, args := #[s, x], argTypes := #[52, 52] })
    (base : Nat) (v : Value) (n : Nat) (l : List Bin) (hs : a.eval s = v) (hown : w.ownsRow base 59 6 v n (binCells l)) (b : Nat) (hx : a.eval x = .slice (some ⟨b, 0, none⟩) 1 1) (y : Bin)
    (hb : Blk w b 59 #[.int .i64 y.f, .int .i64 y.s, .int .i64 y.c, .int .i64 y.o, .int .i64 y.lo, .int .i64 y.hi]) (hn : n ≤ 100000000) (hbase : base ≤ w.heap.size)
    (h : ∀ v' w', w'.ownsRow base 59 6 v' (n + 1) (binCells (l ++ [y])) → w.grownBy w' v.ownBlock → wpListIn F nn Try.prog ops Q rest (a.put o.dst v') w') : wpListIn F nn Try.prog ops Q (o :: rest) a w := by
  obtain ⟨i0, hi0, hz0, hz1, hz2⟩ := info_parts info_bin
  refine wpListIn_append_own w hgd s x 52 ho base 59 i0 _ 6 48 Try.underlying52 hi0 hz0 hz1 hz2 rfl (by decide) v n _ hs hown ⟨b, 0, none⟩ 1 1 (binCells [y]) hx rfl ?_ ?_ ?_ ?_ hbase ?_
  · intro j u hu
    have hbb := hb.cell j
    have hj : j < 6 := by
      rcases Nat.lt_or_ge j 6 with hlt | hge
      · exact hlt
      · rw [List.getElem?_eq_none (by simp [binCells]; exact hge)] at hu; cases hu
    have e1 : (⟨b, 0, none⟩ : Addr).add j = ⟨b, j, none⟩ := by unfold Addr.add; split <;> simp_all
    rw [e1, hbb, ← hu]
    simp [binCells]
  · intro u hu
    simp [binCells] at hu
    rcases hu with rfl | rfl | rfl | rfl | rfl | rfl <;> rfl
  · simp only [maxLen]; omega
  · omega
  · intro v' w' h1 h2 _
    exact h v' w' (by rw [binCells_append]; exact h1) h2

/-- A slice of these records reads as l. -/
def RdBin (w : World) (v : Value) (l : List Bin) : Prop := Rd w 59 6 v l.length (binCells l)
theorem RdBin.cells {w : World} {v : Value} {l : List Bin} (h : RdBin w v l) (hn : 0 < l.length) :
    ∃ b off c, v = .slice (some ⟨b, off, none⟩) l.length c ∧ l.length ≤ c ∧ c ≤ maxLen ∧ b < w.heap.size ∧ ∀ i (hi : i < l.length), w.cell? ⟨b, off + i * 6, none⟩ = some (.int .i64 l[i].f) ∧ w.cell? ⟨b, off + i * 6 + 1, none⟩ = some (.int .i64 l[i].s) ∧ w.cell? ⟨b, off + i * 6 + 2, none⟩ = some (.int .i64 l[i].c) ∧ w.cell? ⟨b, off + i * 6 + 3, none⟩ = some (.int .i64 l[i].o) ∧ w.cell? ⟨b, off + i * 6 + 4, none⟩ = some (.int .i64 l[i].lo) ∧ w.cell? ⟨b, off + i * 6 + 5, none⟩ = some (.int .i64 l[i].hi) := by
  obtain ⟨b, off, c, hv, h2, h3, hlt, hc⟩ := Rd.cell h hn
  refine ⟨b, off, c, hv, h2, h3, hlt, fun i hi => ?_⟩
  obtain ⟨e0, e1, e2, e3, e4, e5⟩ := binCells_get l i hi
  have g1 := hc (i * 6 + 1) (by omega)
  have g2 := hc (i * 6 + 2) (by omega)
  have g3 := hc (i * 6 + 3) (by omega)
  have g4 := hc (i * 6 + 4) (by omega)
  have g5 := hc (i * 6 + 5) (by omega)
  exact ⟨by rw [hc (i * 6) (by omega), e0], by rw [Nat.add_assoc, g1, e1], by rw [Nat.add_assoc, g2, e2], by rw [Nat.add_assoc, g3, e3], by rw [Nat.add_assoc, g4, e4], by rw [Nat.add_assoc, g5, e5]⟩
theorem RdBin.lenv {w : World} {v : Value} {l : List Bin} (h : RdBin w v l) : ∃ pa ca, v = .slice pa l.length ca := by obtain ⟨_, pa, ca, rfl, _⟩ := h; exact ⟨pa, ca, rfl⟩
theorem own_bin {w : World} {base g c n : Nat} {l : List Bin} (h : w.ownsRow base 59 6 (.slice (some ⟨g, 0, none⟩) n c) n (binCells l)) (hl : l.length = n) (i : Nat) (hi : i < n) :
    w.cell? ⟨g, i * 6, none⟩ = some (.int .i64 (l[i]'(by omega)).f) ∧ w.cell? ⟨g, i * 6 + 1, none⟩ = some (.int .i64 (l[i]'(by omega)).s) ∧ w.cell? ⟨g, i * 6 + 2, none⟩ = some (.int .i64 (l[i]'(by omega)).c) ∧ w.cell? ⟨g, i * 6 + 3, none⟩ = some (.int .i64 (l[i]'(by omega)).o) ∧ w.cell? ⟨g, i * 6 + 4, none⟩ = some (.int .i64 (l[i]'(by omega)).lo) ∧ w.cell? ⟨g, i * 6 + 5, none⟩ = some (.int .i64 (l[i]'(by omega)).hi) := by
  obtain ⟨e0, e1, e2, e3, e4, e5⟩ := binCells_get l i (by omega)
  exact ⟨by rw [h.cellAt _ (by omega), e0], by rw [h.cellAt _ (by omega), e1], by rw [h.cellAt _ (by omega), e2], by rw [h.cellAt _ (by omega), e3], by rw [h.cellAt _ (by omega), e4], by rw [h.cellAt _ (by omega), e5]⟩
theorem binCells_set (l : List Bin) (i : Nat) (h : i < l.length) (y : Bin) : ((((((binCells l).set (i * 6) (.int .i64 y.f)).set (i * 6 + 1) (.int .i64 y.s)).set (i * 6 + 2) (.int .i64 y.c)).set (i * 6 + 3) (.int .i64 y.o)).set (i * 6 + 4) (.int .i64 y.lo)).set (i * 6 + 5) (.int .i64 y.hi) = binCells (l.set i y) := by
  induction l generalizing i with
  | nil => simp at h
  | cons x l ih =>
    cases i with
    | zero => simp [binCells]
    | succ i =>
      have := ih i (by simpa using h)
      simp only [List.set_cons_succ]
      have e : ∀ (x : Bin) (l : List Bin), binCells (x :: l) = [.int .i64 x.f, .int .i64 x.s, .int .i64 x.c, .int .i64 x.o, .int .i64 x.lo, .int .i64 x.hi] ++ binCells l := fun _ _ => by simp [binCells]
      rw [e, e, ← this, show (i + 1) * 6 = i * 6 + 6 from by omega, show i * 6 + 6 + 1 = i * 6 + 1 + 6 from by omega, show i * 6 + 6 + 2 = i * 6 + 2 + 6 from by omega, show i * 6 + 6 + 3 = i * 6 + 3 + 6 from by omega, show i * 6 + 6 + 4 = i * 6 + 4 + 6 from by omega, show i * 6 + 6 + 5 = i * 6 + 5 + 6 from by omega]
      simp
end Go.Proofs.Ytefbkdbjfgccpaa
