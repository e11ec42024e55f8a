/- Slices of points: append of one, equality of one list. No condition beyond the contracts'. -/
import Derived.Test.YtgbnjbbjgkfefaaQued
import Derived.Test.YtgbnjbbjgkfefaaApp
import Derived.Deep.QuietTactic
import Derived.BigQuiet
namespace Go.Proofs.Ytgbnjbbjgkfefaa
open Go.RowKit
set_option linter.unusedVariables false
set_option linter.unusedSimpArgs false

/-- A point's four numbers: moment, numerator, denominator, quality. -/
structure Pt where
  t : Int
  n : Int
  d : Int
  q : Int
def ptCells (l : List Pt) : List Value := l.flatMap fun p => [.int .i64 p.t, .int .i64 p.n, .int .i64 p.d, .int .i64 p.q]
theorem ptCells_append (a b : List Pt) : ptCells (a ++ b) = ptCells a ++ ptCells b := by simp [ptCells]
theorem ptCells_length (l : List Pt) : (ptCells l).length = l.length * 4 := by
  induction l with
  | nil => rfl
  | cons x l ih => simp [ptCells] at ih ⊢; omega
theorem ptCells_get (l : List Pt) (i : Nat) (h : i < l.length) : (ptCells l)[i * 4]? = some (.int .i64 l[i].t) ∧ (ptCells l)[i * 4 + 1]? = some (.int .i64 l[i].n) ∧ (ptCells l)[i * 4 + 2]? = some (.int .i64 l[i].d) ∧ (ptCells l)[i * 4 + 3]? = some (.int .i64 l[i].q) := by
  induction l generalizing i with
  | nil => simp at h
  | cons x l ih =>
    cases i with
    | zero => simp [ptCells]
    | succ i =>
      have := ih i (by simpa using h)
      rw [show (i + 1) * 4 = i * 4 + 4 from by omega, show i * 4 + 4 + 1 = i * 4 + 1 + 4 from by omega, show i * 4 + 4 + 2 = i * 4 + 2 + 4 from by omega, show i * 4 + 4 + 3 = i * 4 + 3 + 4 from by omega]
      simpa [ptCells] using this
theorem info_pt : (Try.prog.info? 80).map (fun i => (i.zero, i.size, i.bytes)) = some (some (.agg #[.int .i64 0, .int .i64 0, .int .i64 0, .int .i64 0]), 4, 32) := by kernel_rfl
/-- append of one point that lies alone in block b. -/
theorem wpList_append_pt {w : World} {ops : Array Oper} {rest : List Oper} {o : Oper} {a : Act} {Q : Exit → Act → World → Prop} (hgd : o.guard = none) (s x : Operand)
    (ho : o.op = .call { callee := .builtin .append, args := #[s, x], argTypes := #[83, 83] })
    (base : Nat) (v : Value) (n : Nat) (l : List Pt) (hs : a.eval s = v) (hown : w.ownsRow base 80 4 v n (ptCells l)) (b : Nat) (hx : a.eval x = .slice (some ⟨b, 0, none⟩) 1 1) (y : Pt)
    (hb : Blk w b 80 #[.int .i64 y.t, .int .i64 y.n, .int .i64 y.d, .int .i64 y.q]) (hn : n ≤ 100000000) (hbase : base ≤ w.heap.size)
    (h : ∀ v' w', w'.ownsRow base 80 4 v' (n + 1) (ptCells (l ++ [y])) → w.grownBy w' v.ownBlock → wpList Try.prog ops Q rest (a.put o.dst v') w') : wpList Try.prog ops Q (o :: rest) a w := by
  obtain ⟨i0, hi0, hz0, hz1, hz2⟩ := info_parts info_pt
  refine wpList_append_own w hgd s x 83 ho base 80 i0 _ 4 32 Try.underlying83 hi0 hz0 hz1 hz2 rfl (by decide) v n _ hs hown ⟨b, 0, none⟩ 1 1 (ptCells [y]) hx rfl ?_ ?_ ?_ ?_ hbase ?_
  · intro j u hu
    have hbb := hb.cell j
    have hj : j < 4 := by
      rcases Nat.lt_or_ge j 4 with hlt | hge
      · exact hlt
      · rw [List.getElem?_eq_none (by simp [ptCells]; exact hge)] at hu; cases hu
    have e1 : (⟨b, 0, none⟩ : Addr).add j = ⟨b, j, none⟩ := by unfold Addr.add; split <;> simp_all
    rw [e1, hbb, ← hu]
    simp [ptCells]
  · intro u hu
    simp [ptCells] at hu
    rcases hu with rfl | rfl | rfl | rfl <;> rfl
  · simp only [maxLen]; omega
  · omega
  · intro v' w' h1 h2 _
    exact h v' w' (by rw [ptCells_append]; exact h1) h2

/-- A slice of points reads as l. -/
def RdP (w : World) (v : Value) (l : List Pt) : Prop := Rd w 80 4 v l.length (ptCells l)
theorem RdP.cells {w : World} {v : Value} {l : List Pt} (h : RdP w v l) (hn : 0 < l.length) :
    ∃ b off c, v = .slice (some ⟨b, off, none⟩) l.length c ∧ l.length ≤ c ∧ c ≤ maxLen ∧ b < w.heap.size ∧ ∀ i (hi : i < l.length), w.cell? ⟨b, off + i * 4, none⟩ = some (.int .i64 l[i].t) ∧ w.cell? ⟨b, off + i * 4 + 1, none⟩ = some (.int .i64 l[i].n) ∧ w.cell? ⟨b, off + i * 4 + 2, none⟩ = some (.int .i64 l[i].d) ∧ w.cell? ⟨b, off + i * 4 + 3, none⟩ = some (.int .i64 l[i].q) := by
  obtain ⟨b, off, c, hv, h2, h3, hlt, hc⟩ := Rd.cell h hn
  refine ⟨b, off, c, hv, h2, h3, hlt, fun i hi => ?_⟩
  obtain ⟨e1, e2, e3, e4⟩ := ptCells_get l i hi
  have g1 := hc (i * 4 + 1) (by omega)
  have g2 := hc (i * 4 + 2) (by omega)
  have g3 := hc (i * 4 + 3) (by omega)
  exact ⟨by rw [hc (i * 4) (by omega), e1], by rw [Nat.add_assoc, g1, e2], by rw [Nat.add_assoc, g2, e3], by rw [Nat.add_assoc, g3, e4]⟩
theorem pt_neq (w : World) (x : Pt) : (binOp .neq 80 (.agg #[.int .i64 x.t, .int .i64 x.n, .int .i64 x.d, .int .i64 x.q]) (.agg #[.int .i64 x.t, .int .i64 x.n, .int .i64 x.d, .int .i64 x.q])).run Try.prog w = .ok (.bool false) w := by
  have h := pnt_eqIn w x.t x.n x.d x.q x.t x.n x.d x.q
  rw [run_neq_struct, h]
  simp

set_option maxRecDepth 100000 in
set_option maxHeartbeats 1000000 in
theorem equalP_same (v v' : Value) (l : List Pt) (w : World) (hR : RdP w v l) (hR' : RdP w v' l) :
    Calls Try.prog 53 #[v, v'] w fun e w' => e = .returned (.bool true) ∧ ∃ m, w' = w.drewN m := by
  rcases Nat.eq_zero_or_pos l.length with h0 | h0
  · obtain rfl := List.eq_nil_of_length_eq_zero h0
    obtain ⟨_, a, c, rfl, _, _, _⟩ := hR
    obtain ⟨_, a', c', rfl, _, _, _⟩ := hR'
    clear h0
    go_enter Try.func53, Try.ntmps53
    go_wp2_with fail
    refine wp_loop_rounds 1 ?_
    rw [rounds_succ]
    go_wp2_with fail
    go_ret
    exact ⟨rfl, 0, rfl⟩
  · obtain ⟨b, off, c, rfl, hc1, hc2, hblt, hcell⟩ := RdP.cells hR h0
    obtain ⟨b', off', c', rfl, hc1', hc2', hblt', hcell'⟩ := RdP.cells hR' h0
    unfold maxLen at hc2 hc2'
    have HC := Lib.hid hcell
    have HC' := Lib.hid hcell'
    have hgd := pnt_guard
    clear hcell hcell' hR hR'
    go_enter Try.func53, Try.ntmps53
    go_wp2_with fail
    go_loopw [13] (fun i wr => ∃ j : Nat, j ≤ l.length ∧ i = .int .i64 (j : Int) ∧ ∃ m, wr = w.drewN m) (fun i _ => l.length - (intOf i).toNat)
    case atStart => exact ⟨0, by omega, rfl, 0, rfl⟩
    case round =>
      obtain ⟨j, hj, rfl, m, rfl⟩ := hrel
      by_cases hlt : j < l.length
      · obtain ⟨c0, c1, c2, c3⟩ := HC.out j hlt
        obtain ⟨d0, d1, d2, d3⟩ := HC'.out j hlt
        generalize l[j] = x at *
        have hneq := fun w => pt_neq w x
        go_wp2_with fail
        go_quiet (fail)
        go_wp2_with fail
        go_roundw
        case rel => exact ⟨j + 1, by omega, by go_num, _, rfl⟩
        case measure => simp [intOf]; omega
      · obtain rfl : j = l.length := by omega
        go_wp2_with fail
        go_ret
        exact ⟨rfl, m, rfl⟩
end Go.Proofs.Ytgbnjbbjgkfefaa
