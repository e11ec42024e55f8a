/- The samples of a list by their numbers. -/
import Derived.Test.YtdacdiigeainmaaBase
namespace Go.Proofs.Ytdacdiigeainmaa
open Go.RowKit
set_option linter.unusedVariables false
set_option linter.unusedSimpArgs false

def atS (l : List Smp) (i : Nat) : Smp := l.getD i ⟨0, 0, 0⟩
theorem atS_eq (l : List Smp) (i : Nat) (h : i < l.length) : l[i] = atS l i := by simp [atS, List.getD_eq_getElem?_getD, List.getElem?_eq_getElem h]
theorem RdS.at_ {w : World} {e : TypeId} {v : Value} {l : List Smp} (h : RdS w e v l) (hn : 0 < l.length) :
    ∃ b off c, v = .slice (some ⟨b, off, none⟩) l.length c ∧ l.length ≤ c ∧ c ≤ maxLen ∧ b < w.heap.size ∧ ∀ i, i < l.length →
      w.cell? ⟨b, off + i * 3, none⟩ = some (.int .i64 (atS l i).t) ∧ w.cell? ⟨b, off + i * 3 + 1, none⟩ = some (.int .i64 (atS l i).v) ∧ w.cell? ⟨b, off + i * 3 + 2, none⟩ = some (.int .i64 (atS l i).q) := by
  obtain ⟨b, off, c, hv, h2, h3, hlt, hc⟩ := RdS.cells h hn
  exact ⟨b, off, c, hv, h2, h3, hlt, fun i hi => by rw [← atS_eq l i hi]; exact hc i hi⟩
theorem RdS.atv {w : World} {e : TypeId} {b off n c : Nat} {l : List Smp} (h : RdS w e (.slice (some ⟨b, off, none⟩) n c) l) (i : Nat) (hi : i < l.length) :
    w.cell? ⟨b, off + i * 3, none⟩ = some (.int .i64 (atS l i).t) ∧ w.cell? ⟨b, off + i * 3 + 1, none⟩ = some (.int .i64 (atS l i).v) ∧ w.cell? ⟨b, off + i * 3 + 2, none⟩ = some (.int .i64 (atS l i).q) ∧ b < w.heap.size := by
  obtain ⟨b', off', c', hv, h2, h3, h4, h5⟩ := RdS.at_ h (by omega)
  cases hv
  obtain ⟨h6, h7, h8⟩ := h5 i hi
  exact ⟨h6, h7, h8, h4⟩
theorem RdS.lenv {w : World} {e : TypeId} {v : Value} {l : List Smp} (h : RdS w e v l) : ∃ pa ca, v = .slice pa l.length ca := by obtain ⟨_, pa, ca, rfl, _⟩ := h; exact ⟨pa, ca, rfl⟩
theorem RdS.below {w w' : World} {e : TypeId} {v : Value} {l : List Smp} {B : Nat} (h : RdS w e v l) (hb : Below B w w') (hB : w.heap.size ≤ B) : RdS w' e v l := Rd.below h (hb.mono hB)
/-- All numbers of the samples are far from the bounds of ints. -/
def Fit (l : List Smp) : Prop := ∀ i, i < l.length → (-4000000000000000000 ≤ (atS l i).t ∧ (atS l i).t ≤ 4000000000000000000) ∧ (-4000000000000000000 ≤ (atS l i).v ∧ (atS l i).v ≤ 4000000000000000000)
end Go.Proofs.Ytdacdiigeainmaa
