/- The contract of checkWithin (package sample). -/
import Derived.Test.YtblbfpokkpkcjaaWinb
namespace Go.Proofs.Ytblbfpokkpkcjaa
open Go.RowKit
set_option linter.unusedVariables false
set_option linter.unusedSimpArgs false

set_option maxRecDepth 100000 in
set_option maxHeartbeats 1000000 in
theorem checkWithin_any (v : Value) (l : List Smp) (f t : Int) (w : World) (hR : RdS w 71 v l) :
    Calls Try.prog 190 #[v, .agg #[.int .i64 f, .int .i64 t]] w fun e w' => e = .returned (.int .i64 (orE (serErr l) (winErr f t))) ∧ Below w.heap.size w w' := by
  have hB := Blk.new w 82 #[.int .i64 f, .int .i64 t]
  have HB := Lib.hid hB
  clear hB
  by_cases hS : serErr l = 0
  · have hS' : (serErr l != 0) = false := by simpa using hS
    have hE : orE (serErr l) (winErr f t) = winErr f t := by rw [orE, if_neg (by rw [hS]; simp)]
    have HE := Lib.hid hE
    clear hS hE
    go_enter Try.func190, Try.ntmps190
    go_wp2_with fail
    refine (checkSeries_any v l _ (Rd.alloc hR _)).mono ?_
    rintro e w1 ⟨rfl, hb1⟩
    have hbw : Blk w1 w.heap.size 82 #[.int .i64 f, .int .i64 t] := HB.out.below hb1 (by simp)
    have hb01 : Below w.heap.size w w1 := ((Below.refl _ w).alloc (Nat.le_refl _) _).trans (hb1.mono (by simp))
    have c0 : w1.cell? ⟨w.heap.size, 0, none⟩ = some (.int .i64 f) := hbw.cell 0
    have c1 : w1.cell? ⟨w.heap.size, 1, none⟩ = some (.int .i64 t) := hbw.cell 1
    clear hb1 hbw
    go_wp2_with fail
    refine (window_any f t _).mono ?_
    rintro e w2 ⟨rfl, hb2⟩
    by_cases hw : winB f t = true
    · have hE2 : winErr f t = 0 := by rw [winErr, if_pos hw]
      have HE2 := Lib.hid hE2
      clear hE2
      go_wp2_with fail
      go_ret
      exact ⟨ret_int (by rw [HE.out, HE2.out]), hb01.trans (hb2.mono hb01.size)⟩
    · have hE2 : winErr f t = 1 := by rw [winErr, if_neg hw]
      have hw' : winB f t = false := by simpa using hw
      have HE2 := Lib.hid hE2
      clear hE2 hw
      go_wp2_with fail
      go_ret
      exact ⟨ret_int (by rw [HE.out, HE2.out]), hb01.trans (hb2.mono hb01.size)⟩
  · have hS' : (serErr l != 0) = true := by simpa using hS
    have hE : orE (serErr l) (winErr f t) = serErr l := by rw [orE, if_pos hS]
    have HE := Lib.hid hE
    clear hS hE
    go_enter Try.func190, Try.ntmps190
    go_wp2_with fail
    refine (checkSeries_any v l _ (Rd.alloc hR _)).mono ?_
    rintro e w1 ⟨rfl, hb1⟩
    go_wp2_with fail
    go_ret
    exact ⟨ret_int HE.out.symm, ((Below.refl _ w).alloc (Nat.le_refl _) _).trans (hb1.mono (by simp))⟩

end Go.Proofs.Ytblbfpokkpkcjaa
