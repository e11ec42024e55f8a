import Derived.Test.YtmcojidaimeijaaAgm
import Derived.Test.YtmcojidaimeijaaApp
import Derived.OwnWalkIn
import Derived.Test.YtmcojidaimeijaaAgg
import Derived.Test.YtmcojidaimeijaaQck
import Derived.Test.YtmcojidaimeijaaKmm
import Derived.Deep.DeepCutAuto
import Derived.BigQuiet
import Derived.Deep.QuietTactic
/- Slices of buckets: cells, append of one, reading. No condition beyond the contracts'. -/
/- Buckets as data. -/

namespace Go.Proofs.Ytmcojidaimeijaa
open Go.RowKit
set_option linter.unusedVariables false

structure Bkt where
  f : Int
  t : Int
  g : Int
  n : Int
  d : Int
  mn : Int
  mx : Int
def bktOf (l : List Smp) (f t : Int) : Bkt := ⟨f, t, (aggV l f t).g, (avgV l f t).1, (avgV l f t).2, (aggV l f t).mn, (aggV l f t).mx⟩
def outK (l : List Smp) (pre : List Prt) : List Bkt := pre.map fun x => bktOf l x.1.1 x.1.2
theorem outK_snoc (l : List Smp) (pre : List Prt) (x : Prt) : outK l (pre ++ [x]) = outK l pre ++ [bktOf l x.1.1 x.1.2] := by simp [outK]
theorem outK_long (l : List Smp) (pre : List Prt) : (outK l pre).length = pre.length := by simp [outK]
/-- The buckets of a window's parts. -/
def bktTo (l : List Smp) (f t ev : Int) (k : Nat) : List Bkt := outK l (partsTo f t ev k)
theorem bktTo_succ (l : List Smp) (f t ev : Int) (hf : 0 ≤ f) (ht : t ≤ 345686400000) (hv : 1 ≤ ev) (k : Nat) (hk : k < ptsCnt f t ev) :
    bktTo l f t ev (k + 1) = bktTo l f t ev k ++ [bktOf l (f + k * ev) (if f + k * ev + ev ≤ t then f + k * ev + ev else t)] := by
  have hlt := (ptsCnt_lt f t ev k hv).2 hk
  have h0 : 0 ≤ (k : Int) * ev := Int.mul_nonneg (by omega) (by omega)
  have hx : (partAt f t ev k).1 = (f + k * ev, if f + k * ev + ev ≤ t then f + k * ev + ev else t) := mkPrt_eq (by split <;> omega)
  unfold bktTo
  rw [show partsTo f t ev (k + 1) = partsTo f t ev k ++ [partAt f t ev k] from rfl, outK_snoc, hx]
theorem bktTo_long (l : List Smp) (f t ev : Int) (k : Nat) : (bktTo l f t ev k).length = k := by unfold bktTo; rw [outK_long, partsTo_long]
end Go.Proofs.Ytmcojidaimeijaa
namespace Go.Proofs.Ytmcojidaimeijaa
open Go.RowKit
set_option linter.unusedVariables false
set_option linter.unusedSimpArgs false

def bktCells (l : List Bkt) : List Value := l.flatMap fun p => [.int .i64 p.f, .int .i64 p.t, .int .i64 p.g, .int .i64 p.n, .int .i64 p.d, .int .i64 p.mn, .int .i64 p.mx]
theorem bktCells_append (a b : List Bkt) : bktCells (a ++ b) = bktCells a ++ bktCells b := by simp [bktCells]
theorem bktCells_length (l : List Bkt) : (bktCells l).length = l.length * 7 := by
  induction l with
  | nil => rfl
  | cons x l ih => simp [bktCells] at ih ⊢; omega
theorem bktCells_get (l : List Bkt) (i : Nat) (h : i < l.length) : (bktCells l)[i * 7]? = some (.int .i64 l[i].f) ∧ (bktCells l)[i * 7 + 1]? = some (.int .i64 l[i].t) ∧ (bktCells l)[i * 7 + 2]? = some (.int .i64 l[i].g) ∧ (bktCells l)[i * 7 + 3]? = some (.int .i64 l[i].n) ∧ (bktCells l)[i * 7 + 4]? = some (.int .i64 l[i].d) ∧ (bktCells l)[i * 7 + 5]? = some (.int .i64 l[i].mn) ∧ (bktCells l)[i * 7 + 6]? = some (.int .i64 l[i].mx) := by
  induction l generalizing i with
  | nil => simp at h
  | cons x l ih =>
    cases i with
    | zero => simp [bktCells]
    | succ i =>
      have := ih i (by simpa using h)
      rw [show (i + 1) * 7 = i * 7 + 7 from by omega, show i * 7 + 7 + 1 = i * 7 + 1 + 7 from by omega, show i * 7 + 7 + 2 = i * 7 + 2 + 7 from by omega, show i * 7 + 7 + 3 = i * 7 + 3 + 7 from by omega, show i * 7 + 7 + 4 = i * 7 + 4 + 7 from by omega, show i * 7 + 7 + 5 = i * 7 + 5 + 7 from by omega, show i * 7 + 7 + 6 = i * 7 + 6 + 7 from by omega]
      simpa [bktCells] using this
theorem info_bkt : (Try.prog.info? 75).map (fun i => (i.zero, i.size, i.bytes)) = some (some (.agg #[.int .i64 0, .int .i64 0, .int .i64 0, .int .i64 0, .int .i64 0, .int .i64 0, .int .i64 0]), 7, 56) := by kernel_rfl
/-- append of one record that lies alone in block b. -/
theorem wpList_append_bkt {w : World} {ops : Array Oper} {rest : List Oper} {o : Oper} {a : Act} {Q : Exit → Act → World → Prop} (hgd : o.guard = none) (s x : Operand)
    (ho : o.op = .call { callee := .builtin .append, args := #[s, x], argTypes := #[71, 71] })
    (base : Nat) (v : Value) (n : Nat) (l : List Bkt) (hs : a.eval s = v) (hown : w.ownsRow base 75 7 v n (bktCells l)) (b : Nat) (hx : a.eval x = .slice (some ⟨b, 0, none⟩) 1 1) (y : Bkt)
    (hb : Blk w b 75 #[.int .i64 y.f, .int .i64 y.t, .int .i64 y.g, .int .i64 y.n, .int .i64 y.d, .int .i64 y.mn, .int .i64 y.mx]) (hn : n ≤ 100000000) (hbase : base ≤ w.heap.size)
    (h : ∀ v' w', w'.ownsRow base 75 7 v' (n + 1) (bktCells (l ++ [y])) → w.grownBy w' v.ownBlock → wpList Try.prog ops Q rest (a.put o.dst v') w') : wpList Try.prog ops Q (o :: rest) a w := by
  obtain ⟨i0, hi0, hz0, hz1, hz2⟩ := info_parts info_bkt
  refine wpList_append_own w hgd s x 71 ho base 75 i0 _ 7 56 Try.underlying71 hi0 hz0 hz1 hz2 rfl (by decide) v n _ hs hown ⟨b, 0, none⟩ 1 1 (bktCells [y]) hx rfl ?_ ?_ ?_ ?_ hbase ?_
  · intro j u hu
    have hbb := hb.cell j
    have hj : j < 7 := by
      rcases Nat.lt_or_ge j 7 with hlt | hge
      · exact hlt
      · rw [List.getElem?_eq_none (by simp [bktCells]; exact hge)] at hu; cases hu
    have e1 : (⟨b, 0, none⟩ : Addr).add j = ⟨b, j, none⟩ := by unfold Addr.add; split <;> simp_all
    rw [e1, hbb, ← hu]
    simp [bktCells]
  · intro u hu
    simp [bktCells] at hu
    rcases hu with rfl | rfl | rfl | rfl | rfl | rfl | rfl <;> rfl
  · simp only [maxLen]; omega
  · omega
  · intro v' w' h1 h2 _
    exact h v' w' (by rw [bktCells_append]; exact h1) h2
/-- append of one record that lies alone in block b, inside a fence. -/
theorem wpListIn_append_bkt {F : Fence} {nn : Nat} {w : World} {ops : Array Oper} {rest : List Oper} {o : Oper} {a : Act} {Q : Exit → Act → World → Prop} (hgd : o.guard = none) (s x : Operand)
    (ho : o.op = .call { callee := .builtin .append, args := #[s, x], argTypes := #[71, 71] })
    (base : Nat) (v : Value) (n : Nat) (l : List Bkt) (hs : a.eval s = v) (hown : w.ownsRow base 75 7 v n (bktCells l)) (b : Nat) (hx : a.eval x = .slice (some ⟨b, 0, none⟩) 1 1) (y : Bkt)
    (hb : Blk w b 75 #[.int .i64 y.f, .int .i64 y.t, .int .i64 y.g, .int .i64 y.n, .int .i64 y.d, .int .i64 y.mn, .int .i64 y.mx]) (hn : n ≤ 100000000) (hbase : base ≤ w.heap.size)
    (h : ∀ v' w', w'.ownsRow base 75 7 v' (n + 1) (bktCells (l ++ [y])) → w.grownBy w' v.ownBlock → wpListIn F nn Try.prog ops Q rest (a.put o.dst v') w') : wpListIn F nn Try.prog ops Q (o :: rest) a w := by
  obtain ⟨i0, hi0, hz0, hz1, hz2⟩ := info_parts info_bkt
  refine wpListIn_append_own w hgd s x 71 ho base 75 i0 _ 7 56 Try.underlying71 hi0 hz0 hz1 hz2 rfl (by decide) v n _ hs hown ⟨b, 0, none⟩ 1 1 (bktCells [y]) hx rfl ?_ ?_ ?_ ?_ hbase ?_
  · intro j u hu
    have hbb := hb.cell j
    have hj : j < 7 := by
      rcases Nat.lt_or_ge j 7 with hlt | hge
      · exact hlt
      · rw [List.getElem?_eq_none (by simp [bktCells]; exact hge)] at hu; cases hu
    have e1 : (⟨b, 0, none⟩ : Addr).add j = ⟨b, j, none⟩ := by unfold Addr.add; split <;> simp_all
    rw [e1, hbb, ← hu]
    simp [bktCells]
  · intro u hu
    simp [bktCells] at hu
    rcases hu with rfl | rfl | rfl | rfl | rfl | rfl | rfl <;> rfl
  · simp only [maxLen]; omega
  · omega
  · intro v' w' h1 h2 _
    exact h v' w' (by rw [bktCells_append]; exact h1) h2

/-- A slice of these records reads as l. -/
def RdBkt (w : World) (v : Value) (l : List Bkt) : Prop := Rd w 75 7 v l.length (bktCells l)
theorem RdBkt.cells {w : World} {v : Value} {l : List Bkt} (h : RdBkt w v l) (hn : 0 < l.length) :
    ∃ b off c, v = .slice (some ⟨b, off, none⟩) l.length c ∧ l.length ≤ c ∧ c ≤ maxLen ∧ b < w.heap.size ∧ ∀ i (hi : i < l.length), w.cell? ⟨b, off + i * 7, none⟩ = some (.int .i64 l[i].f) ∧ w.cell? ⟨b, off + i * 7 + 1, none⟩ = some (.int .i64 l[i].t) ∧ w.cell? ⟨b, off + i * 7 + 2, none⟩ = some (.int .i64 l[i].g) ∧ w.cell? ⟨b, off + i * 7 + 3, none⟩ = some (.int .i64 l[i].n) ∧ w.cell? ⟨b, off + i * 7 + 4, none⟩ = some (.int .i64 l[i].d) ∧ w.cell? ⟨b, off + i * 7 + 5, none⟩ = some (.int .i64 l[i].mn) ∧ w.cell? ⟨b, off + i * 7 + 6, none⟩ = some (.int .i64 l[i].mx) := by
  obtain ⟨b, off, c, hv, h2, h3, hlt, hc⟩ := Rd.cell h hn
  refine ⟨b, off, c, hv, h2, h3, hlt, fun i hi => ?_⟩
  obtain ⟨e0, e1, e2, e3, e4, e5, e6⟩ := bktCells_get l i hi
  have g1 := hc (i * 7 + 1) (by omega)
  have g2 := hc (i * 7 + 2) (by omega)
  have g3 := hc (i * 7 + 3) (by omega)
  have g4 := hc (i * 7 + 4) (by omega)
  have g5 := hc (i * 7 + 5) (by omega)
  have g6 := hc (i * 7 + 6) (by omega)
  exact ⟨by rw [hc (i * 7) (by omega), e0], by rw [Nat.add_assoc, g1, e1], by rw [Nat.add_assoc, g2, e2], by rw [Nat.add_assoc, g3, e3], by rw [Nat.add_assoc, g4, e4], by rw [Nat.add_assoc, g5, e5], by rw [Nat.add_assoc, g6, e6]⟩
theorem RdBkt.lenv {w : World} {v : Value} {l : List Bkt} (h : RdBkt w v l) : ∃ pa ca, v = .slice pa l.length ca := by obtain ⟨_, pa, ca, rfl, _⟩ := h; exact ⟨pa, ca, rfl⟩
theorem own_bkt {w : World} {base g c n : Nat} {l : List Bkt} (h : w.ownsRow base 75 7 (.slice (some ⟨g, 0, none⟩) n c) n (bktCells l)) (hl : l.length = n) (i : Nat) (hi : i < n) :
    w.cell? ⟨g, i * 7, none⟩ = some (.int .i64 (l[i]'(by omega)).f) ∧ w.cell? ⟨g, i * 7 + 1, none⟩ = some (.int .i64 (l[i]'(by omega)).t) ∧ w.cell? ⟨g, i * 7 + 2, none⟩ = some (.int .i64 (l[i]'(by omega)).g) ∧ w.cell? ⟨g, i * 7 + 3, none⟩ = some (.int .i64 (l[i]'(by omega)).n) ∧ w.cell? ⟨g, i * 7 + 4, none⟩ = some (.int .i64 (l[i]'(by omega)).d) ∧ w.cell? ⟨g, i * 7 + 5, none⟩ = some (.int .i64 (l[i]'(by omega)).mn) ∧ w.cell? ⟨g, i * 7 + 6, none⟩ = some (.int .i64 (l[i]'(by omega)).mx) := by
  obtain ⟨e0, e1, e2, e3, e4, e5, e6⟩ := bktCells_get l i (by omega)
  exact ⟨by rw [h.cellAt _ (by omega), e0], by rw [h.cellAt _ (by omega), e1], by rw [h.cellAt _ (by omega), e2], by rw [h.cellAt _ (by omega), e3], by rw [h.cellAt _ (by omega), e4], by rw [h.cellAt _ (by omega), e5], by rw [h.cellAt _ (by omega), e6]⟩
theorem bktCells_set (l : List Bkt) (i : Nat) (h : i < l.length) (y : Bkt) : (((((((bktCells l).set (i * 7) (.int .i64 y.f)).set (i * 7 + 1) (.int .i64 y.t)).set (i * 7 + 2) (.int .i64 y.g)).set (i * 7 + 3) (.int .i64 y.n)).set (i * 7 + 4) (.int .i64 y.d)).set (i * 7 + 5) (.int .i64 y.mn)).set (i * 7 + 6) (.int .i64 y.mx) = bktCells (l.set i y) := by
  induction l generalizing i with
  | nil => simp at h
  | cons x l ih =>
    cases i with
    | zero => simp [bktCells]
    | succ i =>
      have := ih i (by simpa using h)
      simp only [List.set_cons_succ]
      have e : ∀ (x : Bkt) (l : List Bkt), bktCells (x :: l) = [.int .i64 x.f, .int .i64 x.t, .int .i64 x.g, .int .i64 x.n, .int .i64 x.d, .int .i64 x.mn, .int .i64 x.mx] ++ bktCells l := fun _ _ => by simp [bktCells]
      rw [e, e, ← this, show (i + 1) * 7 = i * 7 + 7 from by omega, show i * 7 + 7 + 1 = i * 7 + 1 + 7 from by omega, show i * 7 + 7 + 2 = i * 7 + 2 + 7 from by omega, show i * 7 + 7 + 3 = i * 7 + 3 + 7 from by omega, show i * 7 + 7 + 4 = i * 7 + 4 + 7 from by omega, show i * 7 + 7 + 5 = i * 7 + 5 + 7 from by omega, show i * 7 + 7 + 6 = i * 7 + 6 + 7 from by omega]
      simp
end Go.Proofs.Ytmcojidaimeijaa

/- Integral, Average and Extremes (package query). No condition. -/

namespace Go.Proofs.Ytmcojidaimeijaa
open Go.RowKit
set_option linter.unusedVariables false
set_option linter.unusedSimpArgs false

def ckS (l : List Smp) (f t : Int) : Int := if orE (serErr l) (winErr f t) = 0 then (aggV l f t).s else 0
def ckB (l : List Smp) (f t : Int) : Bkt := if orE (serErr l) (winErr f t) = 0 then bktOf l f t else ⟨0, 0, 0, 0, 0, 0, 0⟩

theorem Blk.setSeven {w : World} {b : Nat} {t : TypeId} {x0 x1 x2 x3 x4 x5 x6 : Value} (h : Blk w b t #[x0, x1, x2, x3, x4, x5, x6]) (y0 y1 y2 y3 y4 y5 y6 : Value) :
    Blk (((((((w.setCell ⟨b, 0, none⟩ y0).setCell ⟨b, 1, none⟩ y1).setCell ⟨b, 2, none⟩ y2).setCell ⟨b, 3, none⟩ y3).setCell ⟨b, 4, none⟩ y4).setCell ⟨b, 5, none⟩ y5).setCell ⟨b, 6, none⟩ y6) b t #[y0, y1, y2, y3, y4, y5, y6] := by
  unfold Blk at h ⊢
  simp [World.setCell, Array.getElem?_modify, h]

set_option maxRecDepth 100000 in
set_option maxHeartbeats 4000000 in
theorem checkedAggregated_any (v : Value) (l : List Smp) (f t : Int) (w : World) (hR : RdS w 57 v l) :
    Calls Try.prog 81 #[v, .agg #[.int .i64 f, .int .i64 t]] w fun e w' => e = .returned (.tuple #[.int .i64 (ckS l f t), .agg #[.int .i64 (ckB l f t).f, .int .i64 (ckB l f t).t, .int .i64 (ckB l f t).g, .int .i64 (ckB l f t).n, .int .i64 (ckB l f t).d, .int .i64 (ckB l f t).mn, .int .i64 (ckB l f t).mx], .int .i64 (orE (serErr l) (winErr f t))]) ∧ Below w.heap.size w w' := by
  obtain ⟨pa, ca, rfl⟩ := hR.lenv
  have hbw : Below w.heap.size w ((w.alloc (.cells #[.int .i64 f, .int .i64 t] 43)).alloc (.cells #[.int .i64 0, .int .i64 0, .int .i64 0, .int .i64 0, .int .i64 0, .int .i64 0, .int .i64 0] 75)) := ((Below.refl _ w).alloc (Nat.le_refl _) _).alloc (by simp) _
  have bw0 : Blk ((w.alloc (.cells #[.int .i64 f, .int .i64 t] 43)).alloc (.cells #[.int .i64 0, .int .i64 0, .int .i64 0, .int .i64 0, .int .i64 0, .int .i64 0, .int .i64 0] 75)) w.heap.size 43 #[.int .i64 f, .int .i64 t] := (Blk.new w _ _).alloc _
  have bb0 : Blk ((w.alloc (.cells #[.int .i64 f, .int .i64 t] 43)).alloc (.cells #[.int .i64 0, .int .i64 0, .int .i64 0, .int .i64 0, .int .i64 0, .int .i64 0, .int .i64 0] 75)) (w.heap.size + 1) 75 #[.int .i64 0, .int .i64 0, .int .i64 0, .int .i64 0, .int .i64 0, .int .i64 0, .int .i64 0] := Blk.new1 _ _ _ _
  have hR1 : RdS ((w.alloc (.cells #[.int .i64 f, .int .i64 t] 43)).alloc (.cells #[.int .i64 0, .int .i64 0, .int .i64 0, .int .i64 0, .int .i64 0, .int .i64 0, .int .i64 0] 75)) 57 (.slice pa l.length ca) l := Rd.alloc (Rd.alloc hR _) _
  have HCS := Lib.hid (show ckS l f t = if orE (serErr l) (winErr f t) = 0 then (aggV l f t).s else 0 from rfl)
  have HCB := Lib.hid (show ckB l f t = if orE (serErr l) (winErr f t) = 0 then ⟨f, t, (aggV l f t).g, (avgV l f t).1, (avgV l f t).2, (aggV l f t).mn, (aggV l f t).mx⟩ else ⟨0, 0, 0, 0, 0, 0, 0⟩ from rfl)
  have HWE := Lib.hid (fun h : orE (serErr l) (winErr f t) = 0 => And.intro (orE_zero h).1 (winErr_ok (orE_zero h).2))
  have HAG := Lib.hid (fun (w : World) (hR : RdS w 57 (.slice pa l.length ca) l) (hS : serErr l = 0) (hW : 0 ≤ f ∧ f ≤ t ∧ t ≤ 345686400000) => aggregated_any (.slice pa l.length ca) l f t w hR hS hW)
  have HQC := Lib.hid (fun (b : Nat) (w : World) (hB : Blk w b 26 #[.slice pa l.length ca]) (hR : RdS w 57 (.slice pa l.length ca) l) => qcheck1_any b (.slice pa l.length ca) l f t w hB hR)
  generalize ckS l f t = CS at *
  generalize ckB l f t = CB at *
  generalize aggV l f t = A at *
  generalize avgV l f t = V at *
  generalize orE (serErr l) (winErr f t) = F at *
  go_enter Try.func81, Try.ntmps81
  go_upto_region 1 with fail
  generalize (w.alloc (.cells #[.int .i64 f, .int .i64 t] 43)).alloc (.cells #[.int .i64 0, .int .i64 0, .int .i64 0, .int .i64 0, .int .i64 0, .int .i64 0, .int .i64 0] 75) = w1 at *
  have e0 := bw0.cell 0
  have e1 := bw0.cell 1
  go_wp2_with fail
  refine (HQC.out _ _ (Blk.new _ _ _) (Rd.alloc hR1 _)).mono ?_
  rintro e w2 ⟨rfl, hb2⟩
  have hbA : Below w1.heap.size w1 w2 := ((Below.refl _ w1).alloc (Nat.le_refl _) (.cells #[.slice pa l.length ca] 26)).trans (hb2.mono (by simp))
  have bw2 := bw0.below hbA bw0.lt
  have bb2 := bb0.below hbA bb0.lt
  have hR2 : RdS _ 57 (.slice pa l.length ca) l := Rd.below hR1 hbA
  have hbe := hbw.trans (hbA.mono hbw.size)
  clear e0 e1 hb2 hbA bw0 bb0 hR1 hR hbw HQC
  by_cases hF : F = 0
  · have hF' : (F != 0) = false := by simpa using hF
    have HF := Lib.hid hF
    have HX := Lib.hid (show CS = A.s by rw [HCS.out, if_pos hF])
    have HY := Lib.hid (show CB = ⟨f, t, A.g, V.1, V.2, A.mn, A.mx⟩ by rw [HCB.out, if_pos hF])
    have e0 := bw2.cell 0
    have e1 := bw2.cell 1
    clear hF
    go_wp2_with fail
    refine (HAG.out _ hR2 (HWE.out HF.out).1 (HWE.out HF.out).2).mono ?_
    rintro e w3 ⟨rfl, hb3⟩
    have bb3 := (bb2.below hb3 bb2.lt).alloc (.cells #[.int .i64 f, .int .i64 t, .int .i64 A.g, .int .i64 V.1, .int .i64 V.2, .int .i64 A.mn, .int .i64 A.mx] 75)
    have bn3 := Blk.new w3 75 #[.int .i64 f, .int .i64 t, .int .i64 A.g, .int .i64 V.1, .int .i64 V.2, .int .i64 A.mn, .int .i64 A.mx]
    have hbe3 := hbe.trans ((hb3.alloc hb3.size (.cells #[.int .i64 f, .int .i64 t, .int .i64 A.g, .int .i64 V.1, .int .i64 V.2, .int .i64 A.mn, .int .i64 A.mx] 75)).mono hbe.size)
    clear e0 e1 bw2 bb2 hR2 hbe hb3
    go_upto_region 5 with fail
    generalize w3.alloc (.cells #[.int .i64 f, .int .i64 t, .int .i64 A.g, .int .i64 V.1, .int .i64 V.2, .int .i64 A.mn, .int .i64 A.mx] 75) = w4 at *
    generalize w3.heap.size = n3 at *
    have d0 : w4.cell? ⟨n3, 0, none⟩ = some (.int .i64 f) := bn3.cell 0
    have d1 : w4.cell? ⟨n3, 1, none⟩ = some (.int .i64 t) := bn3.cell 1
    have d2 : w4.cell? ⟨n3, 2, none⟩ = some (.int .i64 A.g) := bn3.cell 2
    have d3 : w4.cell? ⟨n3, 3, none⟩ = some (.int .i64 V.1) := bn3.cell 3
    have d4 : w4.cell? ⟨n3, 4, none⟩ = some (.int .i64 V.2) := bn3.cell 4
    have d5 : w4.cell? ⟨n3, 5, none⟩ = some (.int .i64 A.mn) := bn3.cell 5
    have d6 : w4.cell? ⟨n3, 6, none⟩ = some (.int .i64 A.mx) := bn3.cell 6
    have r0 := bb3.cell 0
    have r1 := bb3.cell 1
    have r2 := bb3.cell 2
    have r3 := bb3.cell 3
    have r4 := bb3.cell 4
    have r5 := bb3.cell 5
    have r6 := bb3.cell 6
    have g0 := bb3.frozen 0
    have g1 := bb3.frozen 1
    have g2 := bb3.frozen 2
    have g3 := bb3.frozen 3
    have g4 := bb3.frozen 4
    have g5 := bb3.frozen 5
    have g6 := bb3.frozen 6
    go_region
    all_goals
      have hB : Blk ((((((((w4.setCell ⟨w.heap.size + 1, 0, none⟩ (.int .i64 f)).setCell ⟨w.heap.size + 1, 1, none⟩ (.int .i64 t)).setCell ⟨w.heap.size + 1, 2, none⟩ (.int .i64 A.g)).setCell ⟨w.heap.size + 1, 3, none⟩ (.int .i64 V.1)).setCell ⟨w.heap.size + 1, 4, none⟩ (.int .i64 V.2)).setCell ⟨w.heap.size + 1, 5, none⟩ (.int .i64 A.mn)).setCell ⟨w.heap.size + 1, 6, none⟩ (.int .i64 A.mx))).drew (w.heap.size + 1) 75 #[.int .i64 f, .int .i64 t, .int .i64 A.g, .int .i64 V.1, .int .i64 V.2, .int .i64 A.mn, .int .i64 A.mx] := (bb3.setSeven _ _ _ _ _ _ _).drew
      have hb5 : Below w.heap.size w ((((((((w4.setCell ⟨w.heap.size + 1, 0, none⟩ (.int .i64 f)).setCell ⟨w.heap.size + 1, 1, none⟩ (.int .i64 t)).setCell ⟨w.heap.size + 1, 2, none⟩ (.int .i64 A.g)).setCell ⟨w.heap.size + 1, 3, none⟩ (.int .i64 V.1)).setCell ⟨w.heap.size + 1, 4, none⟩ (.int .i64 V.2)).setCell ⟨w.heap.size + 1, 5, none⟩ (.int .i64 A.mn)).setCell ⟨w.heap.size + 1, 6, none⟩ (.int .i64 A.mx))).drew := hbe3.trans (Below.drew (by (repeat (refine Below.setCell ?_ (by simp) _)); exact Below.refl _ _))
      generalize ((((((((w4.setCell ⟨w.heap.size + 1, 0, none⟩ (.int .i64 f)).setCell ⟨w.heap.size + 1, 1, none⟩ (.int .i64 t)).setCell ⟨w.heap.size + 1, 2, none⟩ (.int .i64 A.g)).setCell ⟨w.heap.size + 1, 3, none⟩ (.int .i64 V.1)).setCell ⟨w.heap.size + 1, 4, none⟩ (.int .i64 V.2)).setCell ⟨w.heap.size + 1, 5, none⟩ (.int .i64 A.mn)).setCell ⟨w.heap.size + 1, 6, none⟩ (.int .i64 A.mx))).drew = w5 at *
      go_wp2_with fail
      have c0 := hB.cell 0
      have c1 := hB.cell 1
      have c2 := hB.cell 2
      have c3 := hB.cell 3
      have c4 := hB.cell 4
      have c5 := hB.cell 5
      have c6 := hB.cell 6
      exact bodyPost_ret (v := .tuple #[.int .i64 A.s, .agg #[.int .i64 f, .int .i64 t, .int .i64 A.g, .int .i64 V.1, .int .i64 V.2, .int .i64 A.mn, .int .i64 A.mx], .int .i64 0]) (by simp [results, Try.results81, go_sem, c0, c1, c2, c3, c4, c5, c6]) rfl ⟨by rw [HX.out, HY.out, HF.out], hb5⟩
  · have hF' : (F != 0) = true := by simpa using hF
    have HX := Lib.hid (show CS = 0 by rw [HCS.out, if_neg hF])
    have HY := Lib.hid (show CB = ⟨0, 0, 0, 0, 0, 0, 0⟩ by rw [HCB.out, if_neg hF])
    have r0 := bb2.cell 0
    have r1 := bb2.cell 1
    have r2 := bb2.cell 2
    have r3 := bb2.cell 3
    have r4 := bb2.cell 4
    have r5 := bb2.cell 5
    have r6 := bb2.cell 6
    have g0 := bb2.frozen 0
    have g1 := bb2.frozen 1
    have g2 := bb2.frozen 2
    have g3 := bb2.frozen 3
    have g4 := bb2.frozen 4
    have g5 := bb2.frozen 5
    have g6 := bb2.frozen 6
    clear hF
    go_wp2_with fail
    have hB : Blk (((((((w2.setCell ⟨w.heap.size + 1, 0, none⟩ (.int .i64 0)).setCell ⟨w.heap.size + 1, 1, none⟩ (.int .i64 0)).setCell ⟨w.heap.size + 1, 2, none⟩ (.int .i64 0)).setCell ⟨w.heap.size + 1, 3, none⟩ (.int .i64 0)).setCell ⟨w.heap.size + 1, 4, none⟩ (.int .i64 0)).setCell ⟨w.heap.size + 1, 5, none⟩ (.int .i64 0)).setCell ⟨w.heap.size + 1, 6, none⟩ (.int .i64 0)) (w.heap.size + 1) 75 #[.int .i64 0, .int .i64 0, .int .i64 0, .int .i64 0, .int .i64 0, .int .i64 0, .int .i64 0] := bb2.setSeven _ _ _ _ _ _ _
    have hb5 : Below w.heap.size w (((((((w2.setCell ⟨w.heap.size + 1, 0, none⟩ (.int .i64 0)).setCell ⟨w.heap.size + 1, 1, none⟩ (.int .i64 0)).setCell ⟨w.heap.size + 1, 2, none⟩ (.int .i64 0)).setCell ⟨w.heap.size + 1, 3, none⟩ (.int .i64 0)).setCell ⟨w.heap.size + 1, 4, none⟩ (.int .i64 0)).setCell ⟨w.heap.size + 1, 5, none⟩ (.int .i64 0)).setCell ⟨w.heap.size + 1, 6, none⟩ (.int .i64 0)) := hbe.trans (by (repeat (refine Below.setCell ?_ (by simp) _)); first | exact Below.refl _ _ | exact (Below.refl _ _).drew)
    generalize (((((((w2.setCell ⟨w.heap.size + 1, 0, none⟩ (.int .i64 0)).setCell ⟨w.heap.size + 1, 1, none⟩ (.int .i64 0)).setCell ⟨w.heap.size + 1, 2, none⟩ (.int .i64 0)).setCell ⟨w.heap.size + 1, 3, none⟩ (.int .i64 0)).setCell ⟨w.heap.size + 1, 4, none⟩ (.int .i64 0)).setCell ⟨w.heap.size + 1, 5, none⟩ (.int .i64 0)).setCell ⟨w.heap.size + 1, 6, none⟩ (.int .i64 0)) = w5 at *
    have c0 := hB.cell 0
    have c1 := hB.cell 1
    have c2 := hB.cell 2
    have c3 := hB.cell 3
    have c4 := hB.cell 4
    have c5 := hB.cell 5
    have c6 := hB.cell 6
    exact bodyPost_ret (v := .tuple #[.int .i64 0, .agg #[.int .i64 0, .int .i64 0, .int .i64 0, .int .i64 0, .int .i64 0, .int .i64 0, .int .i64 0], .int .i64 F]) (by simp [results, Try.results81, go_sem, c0, c1, c2, c3, c4, c5, c6]) rfl ⟨by rw [HX.out, HY.out], hb5⟩

set_option maxRecDepth 100000 in
set_option maxHeartbeats 4000000 in
theorem integral_any (v : Value) (l : List Smp) (f t : Int) (w : World) (hR : RdS w 57 v l) :
    Calls Try.prog 37 #[v, .agg #[.int .i64 f, .int .i64 t]] w fun e w' => e = .returned (.tuple #[.int .i64 (ckS l f t), .int .i64 (ckB l f t).g, .int .i64 (orE (serErr l) (winErr f t))]) ∧ Below w.heap.size w w' := by
  have hbw : Below w.heap.size w (w.alloc (.cells #[.int .i64 f, .int .i64 t] 43)) := (Below.refl _ w).alloc (Nat.le_refl _) _
  have hca := checkedAggregated_any v l f t _ (Rd.alloc hR (.cells #[.int .i64 f, .int .i64 t] 43))
  generalize ckS l f t = CS at *
  generalize ckB l f t = CB at *
  generalize orE (serErr l) (winErr f t) = F at *
  have HCA := Lib.hid hca
  clear hca hR
  go_enter Try.func37, Try.ntmps37
  go_wp2_with fail
  refine HCA.out.mono ?_
  rintro e w1 ⟨rfl, hb1⟩
  have hb := hbw.trans ((hb1.alloc hb1.size (.cells #[.int .i64 CB.f, .int .i64 CB.t, .int .i64 CB.g, .int .i64 CB.n, .int .i64 CB.d, .int .i64 CB.mn, .int .i64 CB.mx] 75)).mono hbw.size)
  have bn := Blk.new w1 75 #[.int .i64 CB.f, .int .i64 CB.t, .int .i64 CB.g, .int .i64 CB.n, .int .i64 CB.d, .int .i64 CB.mn, .int .i64 CB.mx]
  go_upto_region 2 with fail
  generalize w1.alloc (.cells #[.int .i64 CB.f, .int .i64 CB.t, .int .i64 CB.g, .int .i64 CB.n, .int .i64 CB.d, .int .i64 CB.mn, .int .i64 CB.mx] 75) = w2 at *
  generalize w1.heap.size = n at *
  have d2 : w2.cell? ⟨n, 2, none⟩ = some (.int .i64 CB.g) := bn.cell 2
  go_region
  all_goals go_wp2_with fail
  all_goals exact bodyPost_ret (v := .tuple #[.int .i64 CS, .int .i64 CB.g, .int .i64 F]) (by simp [results, Try.results37, go_sem]) rfl ⟨rfl, hb.drew⟩

set_option maxRecDepth 100000 in
set_option maxHeartbeats 4000000 in
theorem extremes_any (v : Value) (l : List Smp) (f t : Int) (w : World) (hR : RdS w 57 v l) :
    Calls Try.prog 42 #[v, .agg #[.int .i64 f, .int .i64 t]] w fun e w' => e = .returned (.tuple #[.int .i64 (ckB l f t).mn, .int .i64 (ckB l f t).mx, .bool (decide (0 < (ckB l f t).g)), .int .i64 (orE (serErr l) (winErr f t))]) ∧ Below w.heap.size w w' := by
  have hbw : Below w.heap.size w (w.alloc (.cells #[.int .i64 f, .int .i64 t] 43)) := (Below.refl _ w).alloc (Nat.le_refl _) _
  have hca := checkedAggregated_any v l f t _ (Rd.alloc hR (.cells #[.int .i64 f, .int .i64 t] 43))
  generalize ckS l f t = CS at *
  generalize ckB l f t = CB at *
  generalize orE (serErr l) (winErr f t) = F at *
  have HCA := Lib.hid hca
  clear hca hR
  go_enter Try.func42, Try.ntmps42
  go_wp2_with fail
  refine HCA.out.mono ?_
  rintro e w1 ⟨rfl, hb1⟩
  have hb := hbw.trans ((hb1.alloc hb1.size (.cells #[.int .i64 CB.f, .int .i64 CB.t, .int .i64 CB.g, .int .i64 CB.n, .int .i64 CB.d, .int .i64 CB.mn, .int .i64 CB.mx] 75)).mono hbw.size)
  have bn := Blk.new w1 75 #[.int .i64 CB.f, .int .i64 CB.t, .int .i64 CB.g, .int .i64 CB.n, .int .i64 CB.d, .int .i64 CB.mn, .int .i64 CB.mx]
  go_upto_region 2 with fail
  generalize w1.alloc (.cells #[.int .i64 CB.f, .int .i64 CB.t, .int .i64 CB.g, .int .i64 CB.n, .int .i64 CB.d, .int .i64 CB.mn, .int .i64 CB.mx] 75) = w2 at *
  generalize w1.heap.size = n at *
  have d2 : w2.cell? ⟨n, 2, none⟩ = some (.int .i64 CB.g) := bn.cell 2
  have d5 : w2.cell? ⟨n, 5, none⟩ = some (.int .i64 CB.mn) := bn.cell 5
  have d6 : w2.cell? ⟨n, 6, none⟩ = some (.int .i64 CB.mx) := bn.cell 6
  go_region
  all_goals go_wp2_with fail
  all_goals exact bodyPost_ret (v := .tuple #[.int .i64 CB.mn, .int .i64 CB.mx, .bool (decide (0 < CB.g)), .int .i64 F]) (by simp [results, Try.results42, go_sem]) rfl ⟨rfl, hb.drew⟩

set_option maxRecDepth 100000 in
set_option maxHeartbeats 4000000 in
theorem average_any (v : Value) (l : List Smp) (f t : Int) (w : World) (hR : RdS w 57 v l) :
    Calls Try.prog 36 #[v, .agg #[.int .i64 f, .int .i64 t]] w fun e w' => e = .returned (.tuple #[.agg #[.int .i64 (ckB l f t).n, .int .i64 (ckB l f t).d], .bool (decide (0 < (ckB l f t).g)), .int .i64 (orE (serErr l) (winErr f t))]) ∧ Below w.heap.size w w' := by
  have hbw : Below w.heap.size w ((w.alloc (.cells #[.int .i64 f, .int .i64 t] 43)).alloc (.cells #[.int .i64 0, .int .i64 0] 35)) := ((Below.refl _ w).alloc (Nat.le_refl _) _).alloc (by simp) _
  have hrb : Blk ((w.alloc (.cells #[.int .i64 f, .int .i64 t] 43)).alloc (.cells #[.int .i64 0, .int .i64 0] 35)) (w.heap.size + 1) 35 #[.int .i64 0, .int .i64 0] := Blk.new1 _ _ _ _
  have hca := checkedAggregated_any v l f t _ (Rd.alloc (Rd.alloc hR (.cells #[.int .i64 f, .int .i64 t] 43)) (.cells #[.int .i64 0, .int .i64 0] 35))
  generalize ckS l f t = CS at *
  generalize ckB l f t = CB at *
  generalize orE (serErr l) (winErr f t) = F at *
  have HCA := Lib.hid hca
  clear hca hR
  go_enter Try.func36, Try.ntmps36
  go_wp2_with fail
  refine HCA.out.mono ?_
  rintro e w1 ⟨rfl, hb1⟩
  have hb := hbw.trans ((hb1.alloc hb1.size (.cells #[.int .i64 CB.f, .int .i64 CB.t, .int .i64 CB.g, .int .i64 CB.n, .int .i64 CB.d, .int .i64 CB.mn, .int .i64 CB.mx] 75)).mono hbw.size)
  have bn := Blk.new w1 75 #[.int .i64 CB.f, .int .i64 CB.t, .int .i64 CB.g, .int .i64 CB.n, .int .i64 CB.d, .int .i64 CB.mn, .int .i64 CB.mx]
  have hr1 := (hrb.below hb1 hrb.lt).alloc (.cells #[.int .i64 CB.f, .int .i64 CB.t, .int .i64 CB.g, .int .i64 CB.n, .int .i64 CB.d, .int .i64 CB.mn, .int .i64 CB.mx] 75)
  clear hrb HCA hb1 hbw
  go_upto_region 2 with fail
  generalize w1.alloc (.cells #[.int .i64 CB.f, .int .i64 CB.t, .int .i64 CB.g, .int .i64 CB.n, .int .i64 CB.d, .int .i64 CB.mn, .int .i64 CB.mx] 75) = w2 at *
  generalize w1.heap.size = n at *
  have d2 : w2.cell? ⟨n, 2, none⟩ = some (.int .i64 CB.g) := bn.cell 2
  have d3 : w2.cell? ⟨n, 3, none⟩ = some (.int .i64 CB.n) := bn.cell 3
  have d4 : w2.cell? ⟨n, 4, none⟩ = some (.int .i64 CB.d) := bn.cell 4
  have r0 := hr1.cell 0
  have r1 := hr1.cell 1
  have g0 := hr1.frozen 0
  have g1 := hr1.frozen 1
  go_region
  all_goals
    have hB : Blk ((w2.setCell ⟨w.heap.size + 1, 0, none⟩ (.int .i64 CB.n)).setCell ⟨w.heap.size + 1, 1, none⟩ (.int .i64 CB.d)).drew (w.heap.size + 1) 35 #[.int .i64 CB.n, .int .i64 CB.d] := (blk_set (blk_set hr1 0 _) 1 _).drew
    have hb5 : Below w.heap.size w ((w2.setCell ⟨w.heap.size + 1, 0, none⟩ (.int .i64 CB.n)).setCell ⟨w.heap.size + 1, 1, none⟩ (.int .i64 CB.d)).drew := hb.trans (Below.drew (by (repeat (refine Below.setCell ?_ (by simp) _)); exact Below.refl _ _))
    generalize ((w2.setCell ⟨w.heap.size + 1, 0, none⟩ (.int .i64 CB.n)).setCell ⟨w.heap.size + 1, 1, none⟩ (.int .i64 CB.d)).drew = w5 at *
    go_wp2_with fail
    have c0 := hB.cell 0
    have c1 := hB.cell 1
    exact bodyPost_ret (v := .tuple #[.agg #[.int .i64 CB.n, .int .i64 CB.d], .bool (decide (0 < CB.g)), .int .i64 F]) (by simp [results, Try.results36, go_sem, c0, c1]) rfl ⟨rfl, hb5⟩
end Go.Proofs.Ytmcojidaimeijaa

/- Mathematics: buckets lie one behind the other and fill the window. -/

namespace Go.Proofs.Ytmcojidaimeijaa
open Go.RowKit
set_option linter.unusedVariables false
set_option linter.unusedSimpArgs false

/-- Where part j begins, where it ends; how far j parts go. -/
def bkF (f ev : Int) (j : Nat) : Int := f + j * ev
def bkT (f t ev : Int) (j : Nat) : Int := if f + j * ev + ev ≤ t then f + j * ev + ev else t
def atJ (f t ev : Int) (j : Nat) : Int := if f + j * ev ≤ t then f + j * ev else t
theorem atJ_zero {f t ev : Int} (h : f ≤ t) : atJ f t ev 0 = f := by
  unfold atJ
  rw [show ((0 : Nat) : Int) = 0 from rfl, Int.zero_mul, Int.add_zero, if_pos h]
theorem atJ_in {f t ev : Int} {j : Nat} (hv : 1 ≤ ev) (h : j < ptsCnt f t ev) : atJ f t ev j = bkF f ev j := by
  have h1 := (ptsCnt_lt f t ev j hv).2 h
  unfold atJ bkF
  rw [if_pos (by omega)]
theorem atJ_succ {f t ev : Int} {j : Nat} : atJ f t ev (j + 1) = bkT f t ev j := by
  unfold atJ bkT
  have h : ((j + 1 : Nat) : Int) * ev = (j : Int) * ev + ev := by rw [Int.natCast_add, Int.add_mul]; simp
  rw [h, ← Int.add_assoc]
theorem atJ_end {f t ev : Int} (hv : 1 ≤ ev) : atJ f t ev (ptsCnt f t ev) = t := by
  have h1 := ptsCnt_lt f t ev (ptsCnt f t ev) hv
  unfold atJ
  by_cases h : f + (ptsCnt f t ev : Int) * ev ≤ t
  · rw [if_pos h]
    have : ¬ f + (ptsCnt f t ev : Int) * ev < t := fun q => Nat.lt_irrefl _ (h1.1 q)
    omega
  · rw [if_neg h]
theorem part_good {f t ev : Int} {j : Nat} (hf : 0 ≤ f) (ht : t ≤ 345686400000) (hv : 1 ≤ ev) (h : j < ptsCnt f t ev) : (0 ≤ bkF f ev j ∧ bkF f ev j ≤ bkT f t ev j ∧ bkT f t ev j ≤ 345686400000) ∧ bkT f t ev j ≤ t := by
  have h1 := (ptsCnt_lt f t ev j hv).2 h
  have h0 : 0 ≤ (j : Int) * ev := Int.mul_nonneg (by omega) (by omega)
  unfold bkF bkT
  split <;> omega
theorem bktTo_get (l : List Smp) (f t ev : Int) (hf : 0 ≤ f) (ht : t ≤ 345686400000) (hv : 1 ≤ ev) (j k : Nat) (hj : j < k) (hk : k ≤ ptsCnt f t ev) : (bktTo l f t ev k)[j]? = some (bktOf l (bkF f ev j) (bkT f t ev j)) := by
  induction k with
  | zero => omega
  | succ k ih =>
    rw [bktTo_succ l f t ev hf ht hv k (by omega)]
    by_cases h : j < k
    · rw [List.getElem?_append_left (by rw [bktTo_long]; omega)]
      exact ih h (by omega)
    · obtain rfl : j = k := by omega
      rw [List.getElem?_append_right (by rw [bktTo_long]; omega), bktTo_long, Nat.sub_self]
      rfl
theorem part_ck {l : List Smp} {f t : Int} (hS : serErr l = 0) (hW : 0 ≤ f ∧ f ≤ t ∧ t ≤ 345686400000) : orE (serErr l) (winErr f t) = 0 ∧ ckB l f t = bktOf l f t := by
  have h : orE (serErr l) (winErr f t) = 0 := by unfold orE winErr; rw [if_neg (by simp [hS]), if_pos (winB_true.2 hW)]
  exact ⟨h, by unfold ckB; rw [if_pos h]⟩
end Go.Proofs.Ytmcojidaimeijaa
