/- levels: cells, append of one, reading. No condition beyond the contracts'. -/
import Derived.Test.YtefbkdbjfgccpaaStrm
import Derived.Test.YtefbkdbjfgccpaaApp
import Derived.OwnWalkIn
namespace Go.Proofs.Ytefbkdbjfgccpaa
open Go.RowKit
set_option linter.unusedVariables false
set_option linter.unusedSimpArgs false

def lvlCells (l : List (Int × Int)) : List Value := l.flatMap fun p => [.int .i64 p.1, .int .i64 p.2]
theorem lvlCells_append (a b : List (Int × Int)) : lvlCells (a ++ b) = lvlCells a ++ lvlCells b := by simp [lvlCells]
theorem lvlCells_length (l : List (Int × Int)) : (lvlCells l).length = l.length * 2 := by
  induction l with
  | nil => rfl
  | cons x l ih => simp [lvlCells] at ih ⊢; omega
theorem lvlCells_get (l : List (Int × Int)) (i : Nat) (h : i < l.length) : (lvlCells l)[i * 2]? = some (.int .i64 l[i].1) ∧ (lvlCells l)[i * 2 + 1]? = some (.int .i64 l[i].2) := by
  induction l generalizing i with
  | nil => simp at h
  | cons x l ih =>
    cases i with
    | zero => simp [lvlCells]
    | succ i =>
      have := ih i (by simpa using h)
      rw [show (i + 1) * 2 = i * 2 + 2 from by omega, show i * 2 + 2 + 1 = i * 2 + 1 + 2 from by omega]
      simpa [lvlCells] using this
theorem info_lvl : (Try.prog.info? 31).map (fun i => (i.zero, i.size, i.bytes)) = some (some (.agg #[.int .i64 0, .int .i64 0]), 2, 16) := by kernel_rfl
/-- append of one record that lies alone in block b. -/
theorem wpList_append_lvl {w : World} {ops : Array Oper} {rest : List Oper} {o : Oper} {a : Act} {Q : Exit → Act → World → Prop} (hgd : o.guard = none) (s x : Operand)
    (ho : o.op = .call { callee := .builtin .append, args := #[s, x], argTypes := #[26, 26] })
    (base : Nat) (v : Value) (n : Nat) (l : List (Int × Int)) (hs : a.eval s = v) (hown : w.ownsRow base 31 2 v n (lvlCells l)) (b : Nat) (hx : a.eval x = .slice (some ⟨b, 0, none⟩) 1 1) (y : (Int × Int))
    (hb : Blk w b 31 #[.int .i64 y.1, .int .i64 y.2]) (hn : n ≤ 100000000) (hbase : base ≤ w.heap.size)
    (h : ∀ v' w', w'.ownsRow base 31 2 v' (n + 1) (lvlCells (l ++ [y])) → w.grownBy w' v.ownBlock → wpList Try.prog ops Q rest (a.put o.dst v') w') : wpList Try.prog ops Q (o :: rest) a w := by
  obtain ⟨i0, hi0, hz0, hz1, hz2⟩ := info_parts info_lvl
  refine wpList_append_own w hgd s x 26 ho base 31 i0 _ 2 16 Try.underlying26 hi0 hz0 hz1 hz2 rfl (by decide) v n _ hs hown ⟨b, 0, none⟩ 1 1 (lvlCells [y]) hx rfl ?_ ?_ ?_ ?_ hbase ?_
  · intro j u hu
    have hbb := hb.cell j
    have hj : j < 2 := by
      rcases Nat.lt_or_ge j 2 with hlt | hge
      · exact hlt
      · rw [List.getElem?_eq_none (by simp [lvlCells]; exact hge)] at hu; cases hu
    have e1 : (⟨b, 0, none⟩ : Addr).add j = ⟨b, j, none⟩ := by unfold Addr.add; split <;> simp_all
    rw [e1, hbb, ← hu]
    simp [lvlCells]
  · intro u hu
    simp [lvlCells] at hu
    rcases hu with rfl | rfl <;> rfl
  · simp only [maxLen]; omega
  · omega
  · intro v' w' h1 h2 _
    exact h v' w' (by rw [lvlCells_append]; exact h1) h2
/-- append of one record that lies alone in block b, inside a fence. -/
theorem wpListIn_append_lvl {F : Fence} {nn : Nat} {w : World} {ops : Array Oper} {rest : List Oper} {o : Oper} {a : Act} {Q : Exit → Act → World → Prop} (hgd : o.guard = none) (s x : Operand)
    (ho : o.op = .call { callee := .builtin .append, args := #[s, x], argTypes := #[26, 26] })
    (base : Nat) (v : Value) (n : Nat) (l : List (Int × Int)) (hs : a.eval s = v) (hown : w.ownsRow base 31 2 v n (lvlCells l)) (b : Nat) (hx : a.eval x = .slice (some ⟨b, 0, none⟩) 1 1) (y : (Int × Int))
    (hb : Blk w b 31 #[.int .i64 y.1, .int .i64 y.2]) (hn : n ≤ 100000000) (hbase : base ≤ w.heap.size)
    (h : ∀ v' w', w'.ownsRow base 31 2 v' (n + 1) (lvlCells (l ++ [y])) → w.grownBy w' v.ownBlock → wpListIn F nn Try.prog ops Q rest (a.put o.dst v') w') : wpListIn F nn Try.prog ops Q (o :: rest) a w := by
  obtain ⟨i0, hi0, hz0, hz1, hz2⟩ := info_parts info_lvl
  refine wpListIn_append_own w hgd s x 26 ho base 31 i0 _ 2 16 Try.underlying26 hi0 hz0 hz1 hz2 rfl (by decide) v n _ hs hown ⟨b, 0, none⟩ 1 1 (lvlCells [y]) hx rfl ?_ ?_ ?_ ?_ hbase ?_
  · intro j u hu
    have hbb := hb.cell j
    have hj : j < 2 := by
      rcases Nat.lt_or_ge j 2 with hlt | hge
      · exact hlt
      · rw [List.getElem?_eq_none (by simp [lvlCells]; exact hge)] at hu; cases hu
    have e1 : (⟨b, 0, none⟩ : Addr).add j = ⟨b, j, none⟩ := by unfold Addr.add; split <;> simp_all
    rw [e1, hbb, ← hu]
    simp [lvlCells]
  · intro u hu
    simp [lvlCells] at hu
    rcases hu with rfl | rfl <;> rfl
  · simp only [maxLen]; omega
  · omega
  · intro v' w' h1 h2 _
    exact h v' w' (by rw [lvlCells_append]; exact h1) h2

/-- A slice of these records reads as l. -/
def RdLvl (w : World) (v : Value) (l : List (Int × Int)) : Prop := Rd w 31 2 v l.length (lvlCells l)
theorem RdLvl.cells {w : World} {v : Value} {l : List (Int × Int)} (h : RdLvl w v l) (hn : 0 < l.length) :
    ∃ b off c, v = .slice (some ⟨b, off, none⟩) l.length c ∧ l.length ≤ c ∧ c ≤ maxLen ∧ b < w.heap.size ∧ ∀ i (hi : i < l.length), w.cell? ⟨b, off + i * 2, none⟩ = some (.int .i64 l[i].1) ∧ w.cell? ⟨b, off + i * 2 + 1, none⟩ = some (.int .i64 l[i].2) := by
  obtain ⟨b, off, c, hv, h2, h3, hlt, hc⟩ := Rd.cell h hn
  refine ⟨b, off, c, hv, h2, h3, hlt, fun i hi => ?_⟩
  obtain ⟨e0, e1⟩ := lvlCells_get l i hi
  have g1 := hc (i * 2 + 1) (by omega)
  exact ⟨by rw [hc (i * 2) (by omega), e0], by rw [Nat.add_assoc, g1, e1]⟩
theorem RdLvl.lenv {w : World} {v : Value} {l : List (Int × Int)} (h : RdLvl w v l) : ∃ pa ca, v = .slice pa l.length ca := by obtain ⟨_, pa, ca, rfl, _⟩ := h; exact ⟨pa, ca, rfl⟩
theorem own_lvl {w : World} {base g c n : Nat} {l : List (Int × Int)} (h : w.ownsRow base 31 2 (.slice (some ⟨g, 0, none⟩) n c) n (lvlCells l)) (hl : l.length = n) (i : Nat) (hi : i < n) :
    w.cell? ⟨g, i * 2, none⟩ = some (.int .i64 (l[i]'(by omega)).1) ∧ w.cell? ⟨g, i * 2 + 1, none⟩ = some (.int .i64 (l[i]'(by omega)).2) := by
  obtain ⟨e0, e1⟩ := lvlCells_get l i (by omega)
  exact ⟨by rw [h.cellAt _ (by omega), e0], by rw [h.cellAt _ (by omega), e1]⟩
theorem lvlCells_set (l : List (Int × Int)) (i : Nat) (h : i < l.length) (y : (Int × Int)) : ((lvlCells l).set (i * 2) (.int .i64 y.1)).set (i * 2 + 1) (.int .i64 y.2) = lvlCells (l.set i y) := by
  induction l generalizing i with
  | nil => simp at h
  | cons x l ih =>
    cases i with
    | zero => simp [lvlCells]
    | succ i =>
      have := ih i (by simpa using h)
      simp only [List.set_cons_succ]
      have e : ∀ (x : (Int × Int)) (l : List (Int × Int)), lvlCells (x :: l) = [.int .i64 x.1, .int .i64 x.2] ++ lvlCells l := fun _ _ => by simp [lvlCells]
      rw [e, e, ← this, show (i + 1) * 2 = i * 2 + 2 from by omega, show i * 2 + 2 + 1 = i * 2 + 1 + 2 from by omega]
      simp
end Go.Proofs.Ytefbkdbjfgccpaa
