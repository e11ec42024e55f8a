/- The contract of holds (the reference). -/
import Derived.Test.YtblbfpokkpkcjaaVat
namespace Go.Proofs.Ytblbfpokkpkcjaa
open Go.RowKit
set_option linter.unusedVariables false
set_option linter.unusedSimpArgs false

set_option maxRecDepth 100000 in
set_option maxHeartbeats 1000000 in
theorem rholds_any (v : Value) (l : List Smp) (t : Int) (w : World) (hR : RdS w 71 v l) (hS : Rise none l) (hlong : l.length ≤ 5000) :
    Calls Try.prog 133 #[v, .int .i64 t] w fun e w' => e = .returned (.int .i64 ((posF l (t + 1) : Int) - 1)) ∧ Below w.heap.size w w' := by
  obtain ⟨ps, cs, rfl⟩ := hR.lenv
  have hpl := posF_le l (t + 1)
  have hiff := fun i (hi : i < l.length) => posF_iff l (t + 1) none hS i hi
  have HIFF := Lib.hid hiff
  have HR := Lib.hid hR
  clear hiff hR hS
  generalize posF l (t + 1) = p at *
  go_enter Try.func133, Try.ntmps133
  go_wp2_with fail
  go_loopw [5, 10] (fun sk si wr => ∃ i : Nat, i ≤ l.length ∧ si = .int .i64 (i : Int) ∧ sk = .int .i64 ((min i p : Nat) - 1 : Int) ∧ Below w.heap.size w wr) (fun _ i _ => l.length - (intOf i).toNat)
  case atStart => exact ⟨0, by omega, rfl, by simp, Below.refl _ _⟩
  case round =>
    obtain ⟨i, hi, rfl, rfl, hbr⟩ := hrel
    by_cases hlt : i < l.length
    · obtain ⟨b, off, c, hv, hc1, hc2, hblt, hcell⟩ := RdS.at_ (Rd.below HR.out hbr) (by omega)
      cases hv
      unfold maxLen at hc2
      obtain ⟨c0, c1, c2⟩ := hcell i hlt
      have hif := HIFF.out i hlt
      have hbx := hbr.alloc hbr.size (.cells #[.int .i64 (atS l i).t, .int .i64 (atS l i).v, .int .i64 (atS l i).q] 71)
      clear hcell
      generalize atS l i = x at *
      have HIF := Lib.hid hif
      clear hif
      by_cases hxt : x.t ≤ t
      · have hip : i < p := by
          rcases Nat.lt_or_ge i p with h | h
          · exact h
          · have := HIF.out.2 h; omega
        have hmin : min (i + 1) p = i + 1 := by omega
        have HMIN := Lib.hid hmin
        clear hmin
        go_wp2_with fail
        go_roundw
        case rel => exact ⟨i + 1, by omega, by go_num, by rw [HMIN.out]; simp, hbx⟩
        case measure => simp [intOf]; omega
      · have hip : p ≤ i := HIF.out.1 (by omega)
        have hmin : min (i + 1) p = min i p := by omega
        have HMIN := Lib.hid hmin
        have hxt' : t < x.t := by omega
        clear hmin
        go_wp2_with fail
        go_roundw
        case rel => exact ⟨i + 1, by omega, by go_num, by rw [HMIN.out], hbx⟩
        case measure => simp [intOf]; omega
    · obtain rfl : i = l.length := by omega
      go_wp2_with fail
      go_ret
      exact ⟨ret_int (by omega), hbr⟩

end Go.Proofs.Ytblbfpokkpkcjaa
