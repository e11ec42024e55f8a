import Derived.Test.YtmcojidaimeijaaRq04
import Derived.Test.YtmcojidaimeijaaPressed
import Derived.Test.YtmcojidaimeijaaRq05
/- ready() is true: samples are compressed, alarms are raised, and frames are found. -/

namespace Go.Proofs.Ytmcojidaimeijaa
open Go.RowKit
set_option linter.unusedVariables false
set_option linter.unusedSimpArgs false

theorem rdy_E : actE [⟨3, 6, 0⟩] 9 = 0 := by simp [actE, serErr, serFrom, smpErr, inB, notAfter]
theorem rdy_L (par : ByteArray) : actL (hiA 5 0 par) [⟨3, 6, 0⟩] 9 = [(3, 9)] := by
  have h1 : ([⟨3, 6, 0⟩] : List Smp).take (posF [⟨3, 6, 0⟩] 9) = [⟨3, 6, 0⟩] := by simp [posF]
  have h2 : sayF (hiA 5 0 par) ⟨3, 6, 0⟩ = 1 := by rw [say_hi (by decide)]; simp
  unfold actL
  rw [h1, runL_cons, h2]
  have h3 : sameP (hiA 5 0 par) 1 [] = [] := rfl
  rw [h3, runL_nil]
  simp [wndS, wstp, hiA, endT]
theorem rdy_R (par : ByteArray) : actR (hiA 5 0 par) [⟨3, 6, 0⟩] 9 = [(3, 9)] := by unfold actR; rw [if_pos rdy_E, rdy_L]
theorem rdy_F : frmL ⟨5, 5, 0, 0⟩ [⟨3, 6, 0⟩] 9 = [(3, 9)] := by
  have h1 : posF [⟨3, 6, 0⟩] 9 = 1 := by simp [posF]
  unfold frmL
  rw [h1]
  simp [trTo, trs, jnTo, jnS, atS, atW]
theorem rdy_FE : frmE ⟨5, 5, 0, 0⟩ [⟨3, 6, 0⟩] 9 = 0 := by
  unfold frmE
  rw [rdy_F]
  simp [trgErr, serErr, serFrom, smpErr, inB, notAfter]
theorem rdy_FR : frmR ⟨5, 5, 0, 0⟩ [⟨3, 6, 0⟩] 9 = [(3, 9)] := by unfold frmR; rw [if_pos rdy_FE, rdy_F]

set_option maxRecDepth 100000 in
set_option maxHeartbeats 2000000 in
theorem ready_any (w : World) : Calls Try.prog 17 #[] w fun e w' => e = .returned (.bool true) ∧ Below w.heap.size w w' := by
  have h1 : RdS (w.alloc (.cells #[.int .i64 0, .int .i64 0, .int .i64 0, .int .i64 4, .int .i64 2, .int .i64 0] 57)) 57 (.slice (some ⟨w.heap.size, 0, none⟩) 2 2) [⟨0, 0, 0⟩, ⟨4, 2, 0⟩] := RdS.lit w [⟨0, 0, 0⟩, ⟨4, 2, 0⟩] (by simp)
  have h2 := reconstruct_any _ _ 1 _ h1
  rw [pressed_E, pressed_V, pressed_B] at h2
  have H2 := Lib.hid h2
  have hgd := frac_guard
  have heq := frac_eqIn
  clear h1 h2
  go_enter Try.func17, Try.ntmps17
  go_wp2_with fail
  refine H2.out.mono ?_
  rintro e w1 ⟨rfl, hb⟩
  have hbw : Below w.heap.size w w1 := ((Below.refl _ w).alloc (Nat.le_refl _) _).trans (hb.mono (by simp))
  have hsz := hbw.size
  clear H2 hb
  go_upto_region 2 with fail
  have hf := Blk.new w1 35 #[.int .i64 1, .int .i64 2]
  have hb2 := hbw.alloc hsz (.cells #[.int .i64 1, .int .i64 2] 35)
  generalize w1.alloc (.cells #[.int .i64 1, .int .i64 2] 35) = w2 at *
  generalize w1.heap.size = f at *
  have h3 : RdS (w2.alloc (.cells #[.int .i64 3, .int .i64 6, .int .i64 0] 57)) 57 (.slice (some ⟨w2.heap.size, 0, none⟩) 1 1) [⟨3, 6, 0⟩] := RdS.lit w2 [⟨3, 6, 0⟩] (by simp)
  have HA := Lib.hid (fun par => active_hi 5 0 par _ _ 9 _ h3 (by omega) (by omega))
  have hf3 := hf.alloc (.cells #[.int .i64 3, .int .i64 6, .int .i64 0] 57)
  have hb3 := hb2.alloc hb2.size (.cells #[.int .i64 3, .int .i64 6, .int .i64 0] 57)
  clear h3 hf hb2 hbw
  go_wp2_with fail
  refine (HA.out _).mono ?_
  rintro e w4 ⟨vr, rfl, hrr, hb4⟩
  rw [rdy_R] at hrr
  rw [rdy_E]
  obtain ⟨pr, cr, rfl⟩ := hrr.lenv
  have hf4 := hf3.below hb4 hf3.lt
  have hb5 := hb3.trans (hb4.mono hb3.size)
  clear hrr HA hf3 hb3 hb4
  go_upto_region 3 with fail
  have h5 : RdS (w4.alloc (.cells #[.int .i64 3, .int .i64 6, .int .i64 0] 57)) 57 (.slice (some ⟨w4.heap.size, 0, none⟩) 1 1) [⟨3, 6, 0⟩] := RdS.lit w4 [⟨3, 6, 0⟩] (by simp)
  have h6 := frames_any ⟨5, 5, 0, 0⟩ _ _ 9 _ h5
  rw [rdy_FE, rdy_FR] at h6
  have HF := Lib.hid h6
  have hf5 := hf4.alloc (.cells #[.int .i64 3, .int .i64 6, .int .i64 0] 57)
  have hb6 := hb5.alloc hb5.size (.cells #[.int .i64 3, .int .i64 6, .int .i64 0] 57)
  clear h5 h6 hf4 hb5
  go_wp2_with fail
  refine HF.out.mono ?_
  rintro e w6 ⟨vx, rfl, hrx, hb7⟩
  obtain ⟨px, cx, rfl⟩ := hrx.lenv
  have hf6 := hf5.below hb7 hf5.lt
  have hb8 := hb6.trans (hb7.mono hb6.size)
  have e0 := hf6.cell 0
  have e1 := hf6.cell 1
  clear hrx HF hf5 hb6 hb7
  go_wp2_with fail
  go_ret
  exact ⟨rfl, hb8⟩
end Go.Proofs.Ytmcojidaimeijaa
