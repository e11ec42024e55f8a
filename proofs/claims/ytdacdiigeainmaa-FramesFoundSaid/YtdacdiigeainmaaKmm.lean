/- What the laws of package query share: when, what stays readable, the first of two errors. -/
import Derived.Test.YtdacdiigeainmaaOr
import Derived.Test.YtdacdiigeainmaaQck
import Derived.Test.YtdacdiigeainmaaAspan
namespace Go.Proofs.Ytdacdiigeainmaa
open Go.RowKit
set_option linter.unusedVariables false
set_option linter.unusedSimpArgs false

theorem orOf2 (a b : Int) : orOf [a, b] = orE a b := by unfold orOf orE orOf orOf; split <;> simp_all

/-- What stays readable: the series, the window. -/
structure KM (w0 : World) (n : Nat) (f t : Int) (v : Value) (l : List Smp) (w : World) : Prop where
  rs : RdS w 55 v l
  bw : Blk w n 49 #[.int .i64 f, .int .i64 t]
  be : Below w0.heap.size w0 w
section
variable {w0 w w' : World} {n : Nat} {v : Value} {l : List Smp} {f t : Int}
theorem KM.step (hb : Below w.heap.size w w') (h : KM w0 n f t v l w) : KM w0 n f t v l w' := ⟨Rd.below h.rs hb, h.bw.below hb h.bw.lt, h.be.trans (hb.mono h.be.size)⟩
theorem KM.drew (h : KM w0 n f t v l w) : KM w0 n f t v l w.drew := ⟨h.rs, h.bw, h.be.drew⟩
theorem KM.alloc (h : KM w0 n f t v l w) (o : Obj) : KM w0 n f t v l (w.alloc o) := KM.step ((Below.refl _ w).alloc (Nat.le_refl _) o) h
end
theorem butBelow2 {w0 w w' : World} {g : Nat} (h : But g w w') (hg : w0.heap.size ≤ g) (hs : w0.heap.size ≤ w.heap.size) : Below w0.heap.size w w' :=
  ⟨h.os, h.tape, h.output, h.size, fun i hi => h.block i (by omega) (by omega)⟩

theorem vi {a b : Int} (h : a = b) : Value.int .i64 a = .int .i64 b := by rw [h]
theorem orE_zero {a b : Int} (h : orE a b = 0) : a = 0 ∧ b = 0 := by unfold orE at h; split at h <;> omega
theorem orE_left {a b : Int} (h : a = 0) : orE a b = b := by unfold orE; rw [if_neg (by omega)]
theorem orE_first {a b : Int} (h : a ≠ 0) : orE a b = a := by unfold orE; rw [if_pos h]
theorem winErr_ok {f t : Int} (h : winErr f t = 0) : 0 ≤ f ∧ f ≤ t ∧ t ≤ 345686400000 := by
  unfold winErr at h
  by_cases hw : winB f t = true
  · exact winB_true.1 hw
  · rw [if_neg hw] at h; omega
end Go.Proofs.Ytdacdiigeainmaa
