/- Slices of buckets: cells, append of one, reading. No condition beyond the contracts'. -/
/- Buckets as data. -/
import Derived.Test.YtamcbiajicnbfaaAgm
import Derived.Test.YtamcbiajicnbfaaApp
import Derived.OwnWalkIn
namespace Go.Proofs.Ytamcbiajicnbfaa
open Go.RowKit
set_option linter.unusedVariables false

structure Bkt where
  f : Int
  t : Int
  g : Int
  n : Int
  d : Int
  mn : Int
  mx : Int
def bktOf (l : List Smp) (f t : Int) : Bkt := ⟨f, t, (aggV l f t).g, (avgV l f t).1, (avgV l f t).2, (aggV l f t).mn, (aggV l f t).mx⟩
def outK (l : List Smp) (pre : List Prt) : List Bkt := pre.map fun x => bktOf l x.1.1 x.1.2
theorem outK_snoc (l : List Smp) (pre : List Prt) (x : Prt) : outK l (pre ++ [x]) = outK l pre ++ [bktOf l x.1.1 x.1.2] := by simp [outK]
theorem outK_long (l : List Smp) (pre : List Prt) : (outK l pre).length = pre.length := by simp [outK]
/-- The buckets of a window's parts. -/
def bktTo (l : List Smp) (f t ev : Int) (k : Nat) : List Bkt := outK l (partsTo f t ev k)
theorem bktTo_succ (l : List Smp) (f t ev : Int) (hf : 0 ≤ f) (ht : t ≤ 345686400000) (hv : 1 ≤ ev) (k : Nat) (hk : k < ptsCnt f t ev) :
    bktTo l f t ev (k + 1) = bktTo l f t ev k ++ [bktOf l (f + k * ev) (if f + k * ev + ev ≤ t then f + k * ev + ev else t)] := by
  have hlt := (ptsCnt_lt f t ev k hv).2 hk
  have h0 : 0 ≤ (k : Int) * ev := Int.mul_nonneg (by omega) (by omega)
  have hx : (partAt f t ev k).1 = (f + k * ev, if f + k * ev + ev ≤ t then f + k * ev + ev else t) := mkPrt_eq (by split <;> omega)
  unfold bktTo
  rw [show partsTo f t ev (k + 1) = partsTo f t ev k ++ [partAt f t ev k] from rfl, outK_snoc, hx]
theorem bktTo_long (l : List Smp) (f t ev : Int) (k : Nat) : (bktTo l f t ev k).length = k := by unfold bktTo; rw [outK_long, partsTo_long]
end Go.Proofs.Ytamcbiajicnbfaa
namespace Go.Proofs.Ytamcbiajicnbfaa
open Go.RowKit
set_option linter.unusedVariables false
set_option linter.unusedSimpArgs false

def bktCells (l : List Bkt) : List Value := l.flatMap fun p => [.int .i64 p.f, .int .i64 p.t, .int .i64 p.g, .int .i64 p.n, .int .i64 p.d, .int .i64 p.mn, .int .i64 p.mx]
theorem bktCells_append (a b : List Bkt) : bktCells (a ++ b) = bktCells a ++ bktCells b := by simp [bktCells]
theorem bktCells_length (l : List Bkt) : (bktCells l).length = l.length * 7 := by
  induction l with
  | nil => rfl
  | cons x l ih => simp [bktCells] at ih ⊢; omega
theorem bktCells_get (l : List Bkt) (i : Nat) (h : i < l.length) : (bktCells l)[i * 7]? = some (.int .i64 l[i].f) ∧ (bktCells l)[i * 7 + 1]? = some (.int .i64 l[i].t) ∧ (bktCells l)[i * 7 + 2]? = some (.int .i64 l[i].g) ∧ (bktCells l)[i * 7 + 3]? = some (.int .i64 l[i].n) ∧ (bktCells l)[i * 7 + 4]? = some (.int .i64 l[i].d) ∧ (bktCells l)[i * 7 + 5]? = some (.int .i64 l[i].mn) ∧ (bktCells l)[i * 7 + 6]? = some (.int .i64 l[i].mx) := by
  induction l generalizing i with
  | nil => simp at h
  | cons x l ih =>
    cases i with
    | zero => simp [bktCells]
    | succ i =>
      have := ih i (by simpa using h)
      rw [show (i + 1) * 7 = i * 7 + 7 from by omega, show i * 7 + 7 + 1 = i * 7 + 1 + 7 from by omega, show i * 7 + 7 + 2 = i * 7 + 2 + 7 from by omega, show i * 7 + 7 + 3 = i * 7 + 3 + 7 from by omega, show i * 7 + 7 + 4 = i * 7 + 4 + 7 from by omega, show i * 7 + 7 + 5 = i * 7 + 5 + 7 from by omega, show i * 7 + 7 + 6 = i * 7 + 6 + 7 from by omega]
      simpa [bktCells] using this
theorem info_bkt : (Try.prog.info? 137).map (fun i => (i.zero, i.size, i.bytes)) = some (some (.agg #[.int .i64 0, .int .i64 0, .int .i64 0, .int .i64 0, .int .i64 0, .int .i64 0, .int .i64 0]), 7, 56) := by kernel_rfl
/-- append of one record that lies alone in block b. -/
theorem wpList_append_bkt {w : World} {ops : Array Oper} {rest : List Oper} {o : Oper} {a : Act} {Q : Exit → Act → World → Prop} (hgd : o.guard = none) (s x : Operand)
    (ho : o.op = .call { callee := .builtin .append, args := #[s, x], argTypes := #[123, 123] })
    (base : Nat) (v : Value) (n : Nat) (l : List Bkt) (hs : a.eval s = v) (hown : w.ownsRow base 137 7 v n (bktCells l)) (b : Nat) (hx : a.eval x = .slice (some ⟨b, 0, none⟩) 1 1) (y : Bkt)
    (hb : Blk w b 137 #[.int .i64 y.f, .int .i64 y.t, .int .i64 y.g, .int .i64 y.n, .int .i64 y.d, .int .i64 y.mn, .int .i64 y.mx]) (hn : n ≤ 100000000) (hbase : base ≤ w.heap.size)
    (h : ∀ v' w', w'.ownsRow base 137 7 v' (n + 1) (bktCells (l ++ [y])) → w.grownBy w' v.ownBlock → wpList Try.prog ops Q rest (a.put o.dst v') w') : wpList Try.prog ops Q (o :: rest) a w := by
  obtain ⟨i0, hi0, hz0, hz1, hz2⟩ := info_parts info_bkt
  refine wpList_append_own w hgd s x 123 ho base 137 i0 _ 7 56 Try.underlying123 hi0 hz0 hz1 hz2 rfl (by decide) v n _ hs hown ⟨b, 0, none⟩ 1 1 (bktCells [y]) hx rfl ?_ ?_ ?_ ?_ hbase ?_
  · intro j u hu
    have hbb := hb.cell j
    have hj : j < 7 := by
      rcases Nat.lt_or_ge j 7 with hlt | hge
      · exact hlt
      · rw [List.getElem?_eq_none (by simp [bktCells]; exact hge)] at hu; cases hu
    have e1 : (⟨b, 0, none⟩ : Addr).add j = ⟨b, j, none⟩ := by unfold Addr.add; split <;> simp_all
    rw [e1, hbb, ← hu]
    simp [bktCells]
  · intro u hu
    simp [bktCells] at hu
    rcases hu with rfl | rfl | rfl | rfl | rfl | rfl | rfl <;> rfl
  · simp only [maxLen]; omega
  · omega
  · intro v' w' h1 h2 _
    exact h v' w' (by rw [bktCells_append]; exact h1) h2
/-- append of one record that lies alone in block b, inside a fence. -/
theorem wpListIn_append_bkt {F : Fence} {nn : Nat} {w : World} {ops : Array Oper} {rest : List Oper} {o : Oper} {a : Act} {Q : Exit → Act → World → Prop} (hgd : o.guard = none) (s x : Operand)
    (ho : o.op = .call { callee := .builtin .append, args := #[s, x], argTypes := #[123, 123] })
    (base : Nat) (v : Value) (n : Nat) (l : List Bkt) (hs : a.eval s = v) (hown : w.ownsRow base 137 7 v n (bktCells l)) (b : Nat) (hx : a.eval x = .slice (some ⟨b, 0, none⟩) 1 1) (y : Bkt)
    (hb : Blk w b 137 #[.int .i64 y.f, .int .i64 y.t, .int .i64 y.g, .int .i64 y.n, .int .i64 y.d, .int .i64 y.mn, .int .i64 y.mx]) (hn : n ≤ 100000000) (hbase : base ≤ w.heap.size)
    (h : ∀ v' w', w'.ownsRow base 137 7 v' (n + 1) (bktCells (l ++ [y])) → w.grownBy w' v.ownBlock → wpListIn F nn Try.prog ops Q rest (a.put o.dst v') w') : wpListIn F nn Try.prog ops Q (o :: rest) a w := by
  obtain ⟨i0, hi0, hz0, hz1, hz2⟩ := info_parts info_bkt
  refine wpListIn_append_own w hgd s x 123 ho base 137 i0 _ 7 56 Try.underlying123 hi0 hz0 hz1 hz2 rfl (by decide) v n _ hs hown ⟨b, 0, none⟩ 1 1 (bktCells [y]) hx rfl ?_ ?_ ?_ ?_ hbase ?_
  · intro j u hu
    have hbb := hb.cell j
    have hj : j < 7 := by
      rcases Nat.lt_or_ge j 7 with hlt | hge
      · exact hlt
      · rw [List.getElem?_eq_none (by simp [bktCells]; exact hge)] at hu; cases hu
    have e1 : (⟨b, 0, none⟩ : Addr).add j = ⟨b, j, none⟩ := by unfold Addr.add; split <;> simp_all
    rw [e1, hbb, ← hu]
    simp [bktCells]
  · intro u hu
    simp [bktCells] at hu
    rcases hu with rfl | rfl | rfl | rfl | rfl | rfl | rfl <;> rfl
  · simp only [maxLen]; omega
  · omega
  · intro v' w' h1 h2 _
    exact h v' w' (by rw [bktCells_append]; exact h1) h2

/-- A slice of these records reads as l. -/
def RdBkt (w : World) (v : Value) (l : List Bkt) : Prop := Rd w 137 7 v l.length (bktCells l)
theorem RdBkt.cells {w : World} {v : Value} {l : List Bkt} (h : RdBkt w v l) (hn : 0 < l.length) :
    ∃ b off c, v = .slice (some ⟨b, off, none⟩) l.length c ∧ l.length ≤ c ∧ c ≤ maxLen ∧ b < w.heap.size ∧ ∀ i (hi : i < l.length), w.cell? ⟨b, off + i * 7, none⟩ = some (.int .i64 l[i].f) ∧ w.cell? ⟨b, off + i * 7 + 1, none⟩ = some (.int .i64 l[i].t) ∧ w.cell? ⟨b, off + i * 7 + 2, none⟩ = some (.int .i64 l[i].g) ∧ w.cell? ⟨b, off + i * 7 + 3, none⟩ = some (.int .i64 l[i].n) ∧ w.cell? ⟨b, off + i * 7 + 4, none⟩ = some (.int .i64 l[i].d) ∧ w.cell? ⟨b, off + i * 7 + 5, none⟩ = some (.int .i64 l[i].mn) ∧ w.cell? ⟨b, off + i * 7 + 6, none⟩ = some (.int .i64 l[i].mx) := by
  obtain ⟨b, off, c, hv, h2, h3, hlt, hc⟩ := Rd.cell h hn
  refine ⟨b, off, c, hv, h2, h3, hlt, fun i hi => ?_⟩
  obtain ⟨e0, e1, e2, e3, e4, e5, e6⟩ := bktCells_get l i hi
  have g1 := hc (i * 7 + 1) (by omega)
  have g2 := hc (i * 7 + 2) (by omega)
  have g3 := hc (i * 7 + 3) (by omega)
  have g4 := hc (i * 7 + 4) (by omega)
  have g5 := hc (i * 7 + 5) (by omega)
  have g6 := hc (i * 7 + 6) (by omega)
  exact ⟨by rw [hc (i * 7) (by omega), e0], by rw [Nat.add_assoc, g1, e1], by rw [Nat.add_assoc, g2, e2], by rw [Nat.add_assoc, g3, e3], by rw [Nat.add_assoc, g4, e4], by rw [Nat.add_assoc, g5, e5], by rw [Nat.add_assoc, g6, e6]⟩
theorem RdBkt.lenv {w : World} {v : Value} {l : List Bkt} (h : RdBkt w v l) : ∃ pa ca, v = .slice pa l.length ca := by obtain ⟨_, pa, ca, rfl, _⟩ := h; exact ⟨pa, ca, rfl⟩
theorem own_bkt {w : World} {base g c n : Nat} {l : List Bkt} (h : w.ownsRow base 137 7 (.slice (some ⟨g, 0, none⟩) n c) n (bktCells l)) (hl : l.length = n) (i : Nat) (hi : i < n) :
    w.cell? ⟨g, i * 7, none⟩ = some (.int .i64 (l[i]'(by omega)).f) ∧ w.cell? ⟨g, i * 7 + 1, none⟩ = some (.int .i64 (l[i]'(by omega)).t) ∧ w.cell? ⟨g, i * 7 + 2, none⟩ = some (.int .i64 (l[i]'(by omega)).g) ∧ w.cell? ⟨g, i * 7 + 3, none⟩ = some (.int .i64 (l[i]'(by omega)).n) ∧ w.cell? ⟨g, i * 7 + 4, none⟩ = some (.int .i64 (l[i]'(by omega)).d) ∧ w.cell? ⟨g, i * 7 + 5, none⟩ = some (.int .i64 (l[i]'(by omega)).mn) ∧ w.cell? ⟨g, i * 7 + 6, none⟩ = some (.int .i64 (l[i]'(by omega)).mx) := by
  obtain ⟨e0, e1, e2, e3, e4, e5, e6⟩ := bktCells_get l i (by omega)
  exact ⟨by rw [h.cellAt _ (by omega), e0], by rw [h.cellAt _ (by omega), e1], by rw [h.cellAt _ (by omega), e2], by rw [h.cellAt _ (by omega), e3], by rw [h.cellAt _ (by omega), e4], by rw [h.cellAt _ (by omega), e5], by rw [h.cellAt _ (by omega), e6]⟩
theorem bktCells_set (l : List Bkt) (i : Nat) (h : i < l.length) (y : Bkt) : (((((((bktCells l).set (i * 7) (.int .i64 y.f)).set (i * 7 + 1) (.int .i64 y.t)).set (i * 7 + 2) (.int .i64 y.g)).set (i * 7 + 3) (.int .i64 y.n)).set (i * 7 + 4) (.int .i64 y.d)).set (i * 7 + 5) (.int .i64 y.mn)).set (i * 7 + 6) (.int .i64 y.mx) = bktCells (l.set i y) := by
  induction l generalizing i with
  | nil => simp at h
  | cons x l ih =>
    cases i with
    | zero => simp [bktCells]
    | succ i =>
      have := ih i (by simpa using h)
      simp only [List.set_cons_succ]
      have e : ∀ (x : Bkt) (l : List Bkt), bktCells (x :: l) = [.int .i64 x.f, .int .i64 x.t, .int .i64 x.g, .int .i64 x.n, .int .i64 x.d, .int .i64 x.mn, .int .i64 x.mx] ++ bktCells l := fun _ _ => by simp [bktCells]
      rw [e, e, ← this, show (i + 1) * 7 = i * 7 + 7 from by omega, show i * 7 + 7 + 1 = i * 7 + 1 + 7 from by omega, show i * 7 + 7 + 2 = i * 7 + 2 + 7 from by omega, show i * 7 + 7 + 3 = i * 7 + 3 + 7 from by omega, show i * 7 + 7 + 4 = i * 7 + 4 + 7 from by omega, show i * 7 + 7 + 5 = i * 7 + 5 + 7 from by omega, show i * 7 + 7 + 6 = i * 7 + 6 + 7 from by omega]
      simp
end Go.Proofs.Ytamcbiajicnbfaa
