/- checkParts (package query). The length of a part lies between 0 and 86400001. -/
import Derived.Test.YtmcojidaimeijaaVbt
namespace Go.Proofs.Ytmcojidaimeijaa
open Go.RowKit
set_option linter.unusedVariables false
set_option linter.unusedSimpArgs false

theorem long_any (f t : Int) (w : World) (hW : 0 ≤ f ∧ f ≤ t ∧ t ≤ 345686400000) :
    Calls Try.prog 61 #[.agg #[.int .i64 f, .int .i64 t]] w fun e w' => e = .returned (.int .i64 (t - f)) ∧ Below w.heap.size w w' := by
  have hbw : Below w.heap.size w (w.alloc (.cells #[.int .i64 f, .int .i64 t] 43)) := (Below.refl _ w).alloc (Nat.le_refl _) _
  go_enter Try.func61, Try.ntmps61
  go_wp2_with fail
  go_ret
  exact ⟨rfl, hbw⟩

def parE (l : List Smp) (f t ev : Int) : Int := orE (orE (serErr l) (winErr f t)) (evE f t ev)

set_option maxRecDepth 100000 in
set_option maxHeartbeats 2000000 in
theorem checkParts_any (v : Value) (l : List Smp) (f t ev : Int) (w : World) (hR : RdS w 57 v l) (hv : 0 ≤ ev ∧ ev ≤ 86400001) :
    Calls Try.prog 78 #[v, .agg #[.int .i64 f, .int .i64 t], .int .i64 ev] w fun e w' => e = .returned (.int .i64 (parE l f t ev)) ∧ Below w.heap.size w w' := by
  have hE : parE l f t ev = orE (orE (serErr l) (winErr f t)) (evE f t ev) := rfl
  have hV : evE f t ev = if inB ev 1 86400000 = false then 1 else if 5000 * ev < t - f then 2 else 0 := rfl
  have hW := fun h : orE (serErr l) (winErr f t) = 0 => winErr_ok (orE_zero h).2
  generalize parE l f t ev = E at *
  generalize evE f t ev = V at *
  have hk0 := KW.start (f := f) (t := t) hR
  have HK0 := Lib.hid hk0
  have hbq := Blk.new1 w (.cells #[.int .i64 f, .int .i64 t] 43) 26 #[v]
  have hqc := qcheck1_any (w.heap.size + 1) v l f t _ hbq (hk0.alloc (.cells #[v] 26)).rs
  generalize orE (serErr l) (winErr f t) = F at *
  have HQC := Lib.hid hqc
  have HE := Lib.hid hE
  have HV := Lib.hid hV
  have HW := Lib.hid hW
  obtain ⟨pa, ca, rfl⟩ := hR.lenv
  clear hR hk0 hbq hqc hE hV hW
  go_enter Try.func78, Try.ntmps78
  go_wp2_with fail
  refine HQC.out.mono ?_
  rintro e w1 ⟨rfl, hb1⟩
  have hk1 := (HK0.out.alloc (.cells #[.slice pa l.length ca] 26)).step hb1
  have e0 := hk1.bw.cell 0
  have e1 := hk1.bw.cell 1
  by_cases hF : F = 0
  · have HF := Lib.hid hF
    subst hF
    have HE2 := Lib.hid (show E = V by rw [HE.out, orE_left rfl])
    have hW := HW.out rfl
    cases hin : inB ev 1 86400000
    · have HV2 := Lib.hid (show V = 1 by rw [HV.out, hin]; rfl)
      go_wp2_with fail
      refine (within_any ev 1 86400000 _).mono ?_
      rintro e w2 ⟨rfl, rfl⟩
      rw [hin]
      go_wp2_with fail
      go_ret
      exact ⟨ret_int (HE2.out.trans HV2.out).symm, hk1.be⟩
    · have HV2 := Lib.hid (show V = if 5000 * ev < t - f then 2 else 0 by rw [HV.out, hin]; rfl)
      go_wp2_with fail
      refine (within_any ev 1 86400000 _).mono ?_
      rintro e w2 ⟨rfl, rfl⟩
      rw [hin]
      go_wp2_with fail
      refine (long_any f t _ hW).mono ?_
      rintro e w3 ⟨rfl, hb3⟩
      have hk3 := hk1.step hb3
      go_wp2_with fail
      all_goals go_ret
      all_goals exact ⟨ret_int (by rw [HE2.out, HV2.out]; split <;> omega), hk3.be⟩
  · have hF' : (F != 0) = true := by simpa using hF
    have HE2 := Lib.hid (show E = F by rw [HE.out, orE_first hF])
    clear hF
    go_wp2_with fail
    go_ret
    exact ⟨ret_int HE2.out.symm, hk1.be⟩
end Go.Proofs.Ytmcojidaimeijaa
