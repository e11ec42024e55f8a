/- Slices of fractions: append of one, equality of one list. -/
import Derived.Test.YtblbfpokkpkcjaaApp
import Derived.Test.YtblbfpokkpkcjaaPressed
import Derived.Deep.QuietTactic
import Derived.BigQuiet
namespace Go.Proofs.Ytblbfpokkpkcjaa
open Go.RowKit
set_option linter.unusedVariables false
set_option linter.unusedSimpArgs false

def fracCells (l : List (Int × Int)) : List Value := l.flatMap fun p => [.int .i64 p.1, .int .i64 p.2]
theorem fracCells_append (a b : List (Int × Int)) : fracCells (a ++ b) = fracCells a ++ fracCells b := by simp [fracCells]
theorem fracCells_length (l : List (Int × Int)) : (fracCells l).length = l.length * 2 := by
  induction l with
  | nil => rfl
  | cons x l ih => simp [fracCells] at ih ⊢; omega
theorem fracCells_get (l : List (Int × Int)) (i : Nat) (h : i < l.length) : (fracCells l)[i * 2]? = some (.int .i64 l[i].1) ∧ (fracCells l)[i * 2 + 1]? = some (.int .i64 l[i].2) := by
  induction l generalizing i with
  | nil => simp at h
  | cons x l ih =>
    cases i with
    | zero => simp [fracCells]
    | succ i =>
      have := ih i (by simpa using h)
      rw [show (i + 1) * 2 = i * 2 + 2 from by omega, show i * 2 + 2 + 1 = i * 2 + 1 + 2 from by omega]
      simpa [fracCells] using this
theorem info_frac : (Try.prog.info? 57).map (fun i => (i.zero, i.size, i.bytes)) = some (some (.agg #[.int .i64 0, .int .i64 0]), 2, 16) := by kernel_rfl
/-- append of one fraction that lies alone in block b. -/
theorem wpList_append_frac {w : World} {ops : Array Oper} {rest : List Oper} {o : Oper} {a : Act} {Q : Exit → Act → World → Prop} (hgd : o.guard = none) (s x : Operand)
    (ho : o.op = .call { callee := .builtin .append, args := #[s, x], argTypes := #[98, 98] })
    (base : Nat) (v : Value) (n : Nat) (l : List (Int × Int)) (hs : a.eval s = v) (hown : w.ownsRow base 57 2 v n (fracCells l)) (b : Nat) (hx : a.eval x = .slice (some ⟨b, 0, none⟩) 1 1) (y : Int × Int)
    (hb : Blk w b 57 #[.int .i64 y.1, .int .i64 y.2]) (hn : n ≤ 100000000) (hbase : base ≤ w.heap.size)
    (h : ∀ v' w', w'.ownsRow base 57 2 v' (n + 1) (fracCells (l ++ [y])) → w.grownBy w' v.ownBlock → wpList Try.prog ops Q rest (a.put o.dst v') w') : wpList Try.prog ops Q (o :: rest) a w := by
  obtain ⟨i0, hi0, hz0, hz1, hz2⟩ := info_parts info_frac
  refine wpList_append_own w hgd s x 98 ho base 57 i0 _ 2 16 Try.underlying98 hi0 hz0 hz1 hz2 rfl (by decide) v n _ hs hown ⟨b, 0, none⟩ 1 1 (fracCells [y]) hx rfl ?_ ?_ ?_ ?_ hbase ?_
  · intro j u hu
    have hbb := hb.cell j
    have hj : j < 2 := by
      rcases Nat.lt_or_ge j 2 with hlt | hge
      · exact hlt
      · rw [List.getElem?_eq_none (by simp [fracCells]; exact hge)] at hu; cases hu
    have e1 : (⟨b, 0, none⟩ : Addr).add j = ⟨b, j, none⟩ := by unfold Addr.add; split <;> simp_all
    rw [e1, hbb, ← hu]
    simp [fracCells]
  · intro u hu
    simp [fracCells] at hu
    rcases hu with rfl | rfl <;> rfl
  · simp only [maxLen]; omega
  · omega
  · intro v' w' h1 h2 _
    exact h v' w' (by rw [fracCells_append]; exact h1) h2

/-- A slice of fractions reads as l. -/
def RdF (w : World) (v : Value) (l : List (Int × Int)) : Prop := Rd w 57 2 v l.length (fracCells l)
theorem RdF.cells {w : World} {v : Value} {l : List (Int × Int)} (h : RdF w v l) (hn : 0 < l.length) :
    ∃ b off c, v = .slice (some ⟨b, off, none⟩) l.length c ∧ l.length ≤ c ∧ c ≤ maxLen ∧ b < w.heap.size ∧ ∀ i (hi : i < l.length), w.cell? ⟨b, off + i * 2, none⟩ = some (.int .i64 l[i].1) ∧ w.cell? ⟨b, off + i * 2 + 1, none⟩ = some (.int .i64 l[i].2) := by
  obtain ⟨b, off, c, hv, h2, h3, hlt, hc⟩ := Rd.cell h hn
  refine ⟨b, off, c, hv, h2, h3, hlt, fun i hi => ?_⟩
  obtain ⟨e1, e2⟩ := fracCells_get l i hi
  refine ⟨by rw [hc (i * 2) (by omega), e1], ?_⟩
  have := hc (i * 2 + 1) (by omega)
  rw [Nat.add_assoc, this, e2]
end Go.Proofs.Ytblbfpokkpkcjaa
