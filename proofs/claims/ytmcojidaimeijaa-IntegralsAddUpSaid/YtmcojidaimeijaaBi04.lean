import Derived.Test.YtmcojidaimeijaaAgg
import Derived.Test.YtmcojidaimeijaaBi03
import Derived.Test.YtmcojidaimeijaaQck
import Derived.Test.YtmcojidaimeijaaKmm
import Derived.Deep.DeepCutAuto
import Derived.BigQuiet
import Derived.Deep.QuietTactic
import Derived.Test.YtmcojidaimeijaaApp
/- Integral, Average and Extremes (package query). No condition. -/

namespace Go.Proofs.Ytmcojidaimeijaa
open Go.RowKit
set_option linter.unusedVariables false
set_option linter.unusedSimpArgs false

def ckS (l : List Smp) (f t : Int) : Int := if orE (serErr l) (winErr f t) = 0 then (aggV l f t).s else 0
def ckB (l : List Smp) (f t : Int) : Bkt := if orE (serErr l) (winErr f t) = 0 then bktOf l f t else ⟨0, 0, 0, 0, 0, 0, 0⟩

theorem Blk.setSeven {w : World} {b : Nat} {t : TypeId} {x0 x1 x2 x3 x4 x5 x6 : Value} (h : Blk w b t #[x0, x1, x2, x3, x4, x5, x6]) (y0 y1 y2 y3 y4 y5 y6 : Value) :
    Blk (((((((w.setCell ⟨b, 0, none⟩ y0).setCell ⟨b, 1, none⟩ y1).setCell ⟨b, 2, none⟩ y2).setCell ⟨b, 3, none⟩ y3).setCell ⟨b, 4, none⟩ y4).setCell ⟨b, 5, none⟩ y5).setCell ⟨b, 6, none⟩ y6) b t #[y0, y1, y2, y3, y4, y5, y6] := by
  unfold Blk at h ⊢
  simp [World.setCell, Array.getElem?_modify, h]

set_option maxRecDepth 100000 in
set_option maxHeartbeats 4000000 in
theorem checkedAggregated_any (v : Value) (l : List Smp) (f t : Int) (w : World) (hR : RdS w 57 v l) :
    Calls Try.prog 81 #[v, .agg #[.int .i64 f, .int .i64 t]] w fun e w' => e = .returned (.tuple #[.int .i64 (ckS l f t), .agg #[.int .i64 (ckB l f t).f, .int .i64 (ckB l f t).t, .int .i64 (ckB l f t).g, .int .i64 (ckB l f t).n, .int .i64 (ckB l f t).d, .int .i64 (ckB l f t).mn, .int .i64 (ckB l f t).mx], .int .i64 (orE (serErr l) (winErr f t))]) ∧ Below w.heap.size w w' := by
  obtain ⟨pa, ca, rfl⟩ := hR.lenv
  have hbw : Below w.heap.size w ((w.alloc (.cells #[.int .i64 f, .int .i64 t] 43)).alloc (.cells #[.int .i64 0, .int .i64 0, .int .i64 0, .int .i64 0, .int .i64 0, .int .i64 0, .int .i64 0] 75)) := ((Below.refl _ w).alloc (Nat.le_refl _) _).alloc (by simp) _
  have bw0 : Blk ((w.alloc (.cells #[.int .i64 f, .int .i64 t] 43)).alloc (.cells #[.int .i64 0, .int .i64 0, .int .i64 0, .int .i64 0, .int .i64 0, .int .i64 0, .int .i64 0] 75)) w.heap.size 43 #[.int .i64 f, .int .i64 t] := (Blk.new w _ _).alloc _
  have bb0 : Blk ((w.alloc (.cells #[.int .i64 f, .int .i64 t] 43)).alloc (.cells #[.int .i64 0, .int .i64 0, .int .i64 0, .int .i64 0, .int .i64 0, .int .i64 0, .int .i64 0] 75)) (w.heap.size + 1) 75 #[.int .i64 0, .int .i64 0, .int .i64 0, .int .i64 0, .int .i64 0, .int .i64 0, .int .i64 0] := Blk.new1 _ _ _ _
  have hR1 : RdS ((w.alloc (.cells #[.int .i64 f, .int .i64 t] 43)).alloc (.cells #[.int .i64 0, .int .i64 0, .int .i64 0, .int .i64 0, .int .i64 0, .int .i64 0, .int .i64 0] 75)) 57 (.slice pa l.length ca) l := Rd.alloc (Rd.alloc hR _) _
  have HCS := Lib.hid (show ckS l f t = if orE (serErr l) (winErr f t) = 0 then (aggV l f t).s else 0 from rfl)
  have HCB := Lib.hid (show ckB l f t = if orE (serErr l) (winErr f t) = 0 then ⟨f, t, (aggV l f t).g, (avgV l f t).1, (avgV l f t).2, (aggV l f t).mn, (aggV l f t).mx⟩ else ⟨0, 0, 0, 0, 0, 0, 0⟩ from rfl)
  have HWE := Lib.hid (fun h : orE (serErr l) (winErr f t) = 0 => And.intro (orE_zero h).1 (winErr_ok (orE_zero h).2))
  have HAG := Lib.hid (fun (w : World) (hR : RdS w 57 (.slice pa l.length ca) l) (hS : serErr l = 0) (hW : 0 ≤ f ∧ f ≤ t ∧ t ≤ 345686400000) => aggregated_any (.slice pa l.length ca) l f t w hR hS hW)
  have HQC := Lib.hid (fun (b : Nat) (w : World) (hB : Blk w b 26 #[.slice pa l.length ca]) (hR : RdS w 57 (.slice pa l.length ca) l) => qcheck1_any b (.slice pa l.length ca) l f t w hB hR)
  generalize ckS l f t = CS at *
  generalize ckB l f t = CB at *
  generalize aggV l f t = A at *
  generalize avgV l f t = V at *
  generalize orE (serErr l) (winErr f t) = F at *
  go_enter Try.func81, Try.ntmps81
  go_upto_region 1 with fail
  generalize (w.alloc (.cells #[.int .i64 f, .int .i64 t] 43)).alloc (.cells #[.int .i64 0, .int .i64 0, .int .i64 0, .int .i64 0, .int .i64 0, .int .i64 0, .int .i64 0] 75) = w1 at *
  have e0 := bw0.cell 0
  have e1 := bw0.cell 1
  go_wp2_with fail
  refine (HQC.out _ _ (Blk.new _ _ _) (Rd.alloc hR1 _)).mono ?_
  rintro e w2 ⟨rfl, hb2⟩
  have hbA : Below w1.heap.size w1 w2 := ((Below.refl _ w1).alloc (Nat.le_refl _) (.cells #[.slice pa l.length ca] 26)).trans (hb2.mono (by simp))
  have bw2 := bw0.below hbA bw0.lt
  have bb2 := bb0.below hbA bb0.lt
  have hR2 : RdS _ 57 (.slice pa l.length ca) l := Rd.below hR1 hbA
  have hbe := hbw.trans (hbA.mono hbw.size)
  clear e0 e1 hb2 hbA bw0 bb0 hR1 hR hbw HQC
  by_cases hF : F = 0
  · have hF' : (F != 0) = false := by simpa using hF
    have HF := Lib.hid hF
    have HX := Lib.hid (show CS = A.s by rw [HCS.out, if_pos hF])
    have HY := Lib.hid (show CB = ⟨f, t, A.g, V.1, V.2, A.mn, A.mx⟩ by rw [HCB.out, if_pos hF])
    have e0 := bw2.cell 0
    have e1 := bw2.cell 1
    clear hF
    go_wp2_with fail
    refine (HAG.out _ hR2 (HWE.out HF.out).1 (HWE.out HF.out).2).mono ?_
    rintro e w3 ⟨rfl, hb3⟩
    have bb3 := (bb2.below hb3 bb2.lt).alloc (.cells #[.int .i64 f, .int .i64 t, .int .i64 A.g, .int .i64 V.1, .int .i64 V.2, .int .i64 A.mn, .int .i64 A.mx] 75)
    have bn3 := Blk.new w3 75 #[.int .i64 f, .int .i64 t, .int .i64 A.g, .int .i64 V.1, .int .i64 V.2, .int .i64 A.mn, .int .i64 A.mx]
    have hbe3 := hbe.trans ((hb3.alloc hb3.size (.cells #[.int .i64 f, .int .i64 t, .int .i64 A.g, .int .i64 V.1, .int .i64 V.2, .int .i64 A.mn, .int .i64 A.mx] 75)).mono hbe.size)
    clear e0 e1 bw2 bb2 hR2 hbe hb3
    go_upto_region 5 with fail
    generalize w3.alloc (.cells #[.int .i64 f, .int .i64 t, .int .i64 A.g, .int .i64 V.1, .int .i64 V.2, .int .i64 A.mn, .int .i64 A.mx] 75) = w4 at *
    generalize w3.heap.size = n3 at *
    have d0 : w4.cell? ⟨n3, 0, none⟩ = some (.int .i64 f) := bn3.cell 0
    have d1 : w4.cell? ⟨n3, 1, none⟩ = some (.int .i64 t) := bn3.cell 1
    have d2 : w4.cell? ⟨n3, 2, none⟩ = some (.int .i64 A.g) := bn3.cell 2
    have d3 : w4.cell? ⟨n3, 3, none⟩ = some (.int .i64 V.1) := bn3.cell 3
    have d4 : w4.cell? ⟨n3, 4, none⟩ = some (.int .i64 V.2) := bn3.cell 4
    have d5 : w4.cell? ⟨n3, 5, none⟩ = some (.int .i64 A.mn) := bn3.cell 5
    have d6 : w4.cell? ⟨n3, 6, none⟩ = some (.int .i64 A.mx) := bn3.cell 6
    have r0 := bb3.cell 0
    have r1 := bb3.cell 1
    have r2 := bb3.cell 2
    have r3 := bb3.cell 3
    have r4 := bb3.cell 4
    have r5 := bb3.cell 5
    have r6 := bb3.cell 6
    have g0 := bb3.frozen 0
    have g1 := bb3.frozen 1
    have g2 := bb3.frozen 2
    have g3 := bb3.frozen 3
    have g4 := bb3.frozen 4
    have g5 := bb3.frozen 5
    have g6 := bb3.frozen 6
    go_region
    all_goals
      have hB : Blk ((((((((w4.setCell ⟨w.heap.size + 1, 0, none⟩ (.int .i64 f)).setCell ⟨w.heap.size + 1, 1, none⟩ (.int .i64 t)).setCell ⟨w.heap.size + 1, 2, none⟩ (.int .i64 A.g)).setCell ⟨w.heap.size + 1, 3, none⟩ (.int .i64 V.1)).setCell ⟨w.heap.size + 1, 4, none⟩ (.int .i64 V.2)).setCell ⟨w.heap.size + 1, 5, none⟩ (.int .i64 A.mn)).setCell ⟨w.heap.size + 1, 6, none⟩ (.int .i64 A.mx))).drew (w.heap.size + 1) 75 #[.int .i64 f, .int .i64 t, .int .i64 A.g, .int .i64 V.1, .int .i64 V.2, .int .i64 A.mn, .int .i64 A.mx] := (bb3.setSeven _ _ _ _ _ _ _).drew
      have hb5 : Below w.heap.size w ((((((((w4.setCell ⟨w.heap.size + 1, 0, none⟩ (.int .i64 f)).setCell ⟨w.heap.size + 1, 1, none⟩ (.int .i64 t)).setCell ⟨w.heap.size + 1, 2, none⟩ (.int .i64 A.g)).setCell ⟨w.heap.size + 1, 3, none⟩ (.int .i64 V.1)).setCell ⟨w.heap.size + 1, 4, none⟩ (.int .i64 V.2)).setCell ⟨w.heap.size + 1, 5, none⟩ (.int .i64 A.mn)).setCell ⟨w.heap.size + 1, 6, none⟩ (.int .i64 A.mx))).drew := hbe3.trans (Below.drew (by (repeat (refine Below.setCell ?_ (by simp) _)); exact Below.refl _ _))
      generalize ((((((((w4.setCell ⟨w.heap.size + 1, 0, none⟩ (.int .i64 f)).setCell ⟨w.heap.size + 1, 1, none⟩ (.int .i64 t)).setCell ⟨w.heap.size + 1, 2, none⟩ (.int .i64 A.g)).setCell ⟨w.heap.size + 1, 3, none⟩ (.int .i64 V.1)).setCell ⟨w.heap.size + 1, 4, none⟩ (.int .i64 V.2)).setCell ⟨w.heap.size + 1, 5, none⟩ (.int .i64 A.mn)).setCell ⟨w.heap.size + 1, 6, none⟩ (.int .i64 A.mx))).drew = w5 at *
      go_wp2_with fail
      have c0 := hB.cell 0
      have c1 := hB.cell 1
      have c2 := hB.cell 2
      have c3 := hB.cell 3
      have c4 := hB.cell 4
      have c5 := hB.cell 5
      have c6 := hB.cell 6
      exact bodyPost_ret (v := .tuple #[.int .i64 A.s, .agg #[.int .i64 f, .int .i64 t, .int .i64 A.g, .int .i64 V.1, .int .i64 V.2, .int .i64 A.mn, .int .i64 A.mx], .int .i64 0]) (by simp [results, Try.results81, go_sem, c0, c1, c2, c3, c4, c5, c6]) rfl ⟨by rw [HX.out, HY.out, HF.out], hb5⟩
  · have hF' : (F != 0) = true := by simpa using hF
    have HX := Lib.hid (show CS = 0 by rw [HCS.out, if_neg hF])
    have HY := Lib.hid (show CB = ⟨0, 0, 0, 0, 0, 0, 0⟩ by rw [HCB.out, if_neg hF])
    have r0 := bb2.cell 0
    have r1 := bb2.cell 1
    have r2 := bb2.cell 2
    have r3 := bb2.cell 3
    have r4 := bb2.cell 4
    have r5 := bb2.cell 5
    have r6 := bb2.cell 6
    have g0 := bb2.frozen 0
    have g1 := bb2.frozen 1
    have g2 := bb2.frozen 2
    have g3 := bb2.frozen 3
    have g4 := bb2.frozen 4
    have g5 := bb2.frozen 5
    have g6 := bb2.frozen 6
    clear hF
    go_wp2_with fail
    have hB : Blk (((((((w2.setCell ⟨w.heap.size + 1, 0, none⟩ (.int .i64 0)).setCell ⟨w.heap.size + 1, 1, none⟩ (.int .i64 0)).setCell ⟨w.heap.size + 1, 2, none⟩ (.int .i64 0)).setCell ⟨w.heap.size + 1, 3, none⟩ (.int .i64 0)).setCell ⟨w.heap.size + 1, 4, none⟩ (.int .i64 0)).setCell ⟨w.heap.size + 1, 5, none⟩ (.int .i64 0)).setCell ⟨w.heap.size + 1, 6, none⟩ (.int .i64 0)) (w.heap.size + 1) 75 #[.int .i64 0, .int .i64 0, .int .i64 0, .int .i64 0, .int .i64 0, .int .i64 0, .int .i64 0] := bb2.setSeven _ _ _ _ _ _ _
    have hb5 : Below w.heap.size w (((((((w2.setCell ⟨w.heap.size + 1, 0, none⟩ (.int .i64 0)).setCell ⟨w.heap.size + 1, 1, none⟩ (.int .i64 0)).setCell ⟨w.heap.size + 1, 2, none⟩ (.int .i64 0)).setCell ⟨w.heap.size + 1, 3, none⟩ (.int .i64 0)).setCell ⟨w.heap.size + 1, 4, none⟩ (.int .i64 0)).setCell ⟨w.heap.size + 1, 5, none⟩ (.int .i64 0)).setCell ⟨w.heap.size + 1, 6, none⟩ (.int .i64 0)) := hbe.trans (by (repeat (refine Below.setCell ?_ (by simp) _)); first | exact Below.refl _ _ | exact (Below.refl _ _).drew)
    generalize (((((((w2.setCell ⟨w.heap.size + 1, 0, none⟩ (.int .i64 0)).setCell ⟨w.heap.size + 1, 1, none⟩ (.int .i64 0)).setCell ⟨w.heap.size + 1, 2, none⟩ (.int .i64 0)).setCell ⟨w.heap.size + 1, 3, none⟩ (.int .i64 0)).setCell ⟨w.heap.size + 1, 4, none⟩ (.int .i64 0)).setCell ⟨w.heap.size + 1, 5, none⟩ (.int .i64 0)).setCell ⟨w.heap.size + 1, 6, none⟩ (.int .i64 0)) = w5 at *
    have c0 := hB.cell 0
    have c1 := hB.cell 1
    have c2 := hB.cell 2
    have c3 := hB.cell 3
    have c4 := hB.cell 4
    have c5 := hB.cell 5
    have c6 := hB.cell 6
    exact bodyPost_ret (v := .tuple #[.int .i64 0, .agg #[.int .i64 0, .int .i64 0, .int .i64 0, .int .i64 0, .int .i64 0, .int .i64 0, .int .i64 0], .int .i64 F]) (by simp [results, Try.results81, go_sem, c0, c1, c2, c3, c4, c5, c6]) rfl ⟨by rw [HX.out, HY.out], hb5⟩

set_option maxRecDepth 100000 in
set_option maxHeartbeats 4000000 in
theorem integral_any (v : Value) (l : List Smp) (f t : Int) (w : World) (hR : RdS w 57 v l) :
    Calls Try.prog 37 #[v, .agg #[.int .i64 f, .int .i64 t]] w fun e w' => e = .returned (.tuple #[.int .i64 (ckS l f t), .int .i64 (ckB l f t).g, .int .i64 (orE (serErr l) (winErr f t))]) ∧ Below w.heap.size w w' := by
  have hbw : Below w.heap.size w (w.alloc (.cells #[.int .i64 f, .int .i64 t] 43)) := (Below.refl _ w).alloc (Nat.le_refl _) _
  have hca := checkedAggregated_any v l f t _ (Rd.alloc hR (.cells #[.int .i64 f, .int .i64 t] 43))
  generalize ckS l f t = CS at *
  generalize ckB l f t = CB at *
  generalize orE (serErr l) (winErr f t) = F at *
  have HCA := Lib.hid hca
  clear hca hR
  go_enter Try.func37, Try.ntmps37
  go_wp2_with fail
  refine HCA.out.mono ?_
  rintro e w1 ⟨rfl, hb1⟩
  have hb := hbw.trans ((hb1.alloc hb1.size (.cells #[.int .i64 CB.f, .int .i64 CB.t, .int .i64 CB.g, .int .i64 CB.n, .int .i64 CB.d, .int .i64 CB.mn, .int .i64 CB.mx] 75)).mono hbw.size)
  have bn := Blk.new w1 75 #[.int .i64 CB.f, .int .i64 CB.t, .int .i64 CB.g, .int .i64 CB.n, .int .i64 CB.d, .int .i64 CB.mn, .int .i64 CB.mx]
  go_upto_region 2 with fail
  generalize w1.alloc (.cells #[.int .i64 CB.f, .int .i64 CB.t, .int .i64 CB.g, .int .i64 CB.n, .int .i64 CB.d, .int .i64 CB.mn, .int .i64 CB.mx] 75) = w2 at *
  generalize w1.heap.size = n at *
  have d2 : w2.cell? ⟨n, 2, none⟩ = some (.int .i64 CB.g) := bn.cell 2
  go_region
  all_goals go_wp2_with fail
  all_goals exact bodyPost_ret (v := .tuple #[.int .i64 CS, .int .i64 CB.g, .int .i64 F]) (by simp [results, Try.results37, go_sem]) rfl ⟨rfl, hb.drew⟩

set_option maxRecDepth 100000 in
set_option maxHeartbeats 4000000 in
theorem extremes_any (v : Value) (l : List Smp) (f t : Int) (w : World) (hR : RdS w 57 v l) :
    Calls Try.prog 42 #[v, .agg #[.int .i64 f, .int .i64 t]] w fun e w' => e = .returned (.tuple #[.int .i64 (ckB l f t).mn, .int .i64 (ckB l f t).mx, .bool (decide (0 < (ckB l f t).g)), .int .i64 (orE (serErr l) (winErr f t))]) ∧ Below w.heap.size w w' := by
  have hbw : Below w.heap.size w (w.alloc (.cells #[.int .i64 f, .int .i64 t] 43)) := (Below.refl _ w).alloc (Nat.le_refl _) _
  have hca := checkedAggregated_any v l f t _ (Rd.alloc hR (.cells #[.int .i64 f, .int .i64 t] 43))
  generalize ckS l f t = CS at *
  generalize ckB l f t = CB at *
  generalize orE (serErr l) (winErr f t) = F at *
  have HCA := Lib.hid hca
  clear hca hR
  go_enter Try.func42, Try.ntmps42
  go_wp2_with fail
  refine HCA.out.mono ?_
  rintro e w1 ⟨rfl, hb1⟩
  have hb := hbw.trans ((hb1.alloc hb1.size (.cells #[.int .i64 CB.f, .int .i64 CB.t, .int .i64 CB.g, .int .i64 CB.n, .int .i64 CB.d, .int .i64 CB.mn, .int .i64 CB.mx] 75)).mono hbw.size)
  have bn := Blk.new w1 75 #[.int .i64 CB.f, .int .i64 CB.t, .int .i64 CB.g, .int .i64 CB.n, .int .i64 CB.d, .int .i64 CB.mn, .int .i64 CB.mx]
  go_upto_region 2 with fail
  generalize w1.alloc (.cells #[.int .i64 CB.f, .int .i64 CB.t, .int .i64 CB.g, .int .i64 CB.n, .int .i64 CB.d, .int .i64 CB.mn, .int .i64 CB.mx] 75) = w2 at *
  generalize w1.heap.size = n at *
  have d2 : w2.cell? ⟨n, 2, none⟩ = some (.int .i64 CB.g) := bn.cell 2
  have d5 : w2.cell? ⟨n, 5, none⟩ = some (.int .i64 CB.mn) := bn.cell 5
  have d6 : w2.cell? ⟨n, 6, none⟩ = some (.int .i64 CB.mx) := bn.cell 6
  go_region
  all_goals go_wp2_with fail
  all_goals exact bodyPost_ret (v := .tuple #[.int .i64 CB.mn, .int .i64 CB.mx, .bool (decide (0 < CB.g)), .int .i64 F]) (by simp [results, Try.results42, go_sem]) rfl ⟨rfl, hb.drew⟩

set_option maxRecDepth 100000 in
set_option maxHeartbeats 4000000 in
theorem average_any (v : Value) (l : List Smp) (f t : Int) (w : World) (hR : RdS w 57 v l) :
    Calls Try.prog 36 #[v, .agg #[.int .i64 f, .int .i64 t]] w fun e w' => e = .returned (.tuple #[.agg #[.int .i64 (ckB l f t).n, .int .i64 (ckB l f t).d], .bool (decide (0 < (ckB l f t).g)), .int .i64 (orE (serErr l) (winErr f t))]) ∧ Below w.heap.size w w' := by
  have hbw : Below w.heap.size w ((w.alloc (.cells #[.int .i64 f, .int .i64 t] 43)).alloc (.cells #[.int .i64 0, .int .i64 0] 35)) := ((Below.refl _ w).alloc (Nat.le_refl _) _).alloc (by simp) _
  have hrb : Blk ((w.alloc (.cells #[.int .i64 f, .int .i64 t] 43)).alloc (.cells #[.int .i64 0, .int .i64 0] 35)) (w.heap.size + 1) 35 #[.int .i64 0, .int .i64 0] := Blk.new1 _ _ _ _
  have hca := checkedAggregated_any v l f t _ (Rd.alloc (Rd.alloc hR (.cells #[.int .i64 f, .int .i64 t] 43)) (.cells #[.int .i64 0, .int .i64 0] 35))
  generalize ckS l f t = CS at *
  generalize ckB l f t = CB at *
  generalize orE (serErr l) (winErr f t) = F at *
  have HCA := Lib.hid hca
  clear hca hR
  go_enter Try.func36, Try.ntmps36
  go_wp2_with fail
  refine HCA.out.mono ?_
  rintro e w1 ⟨rfl, hb1⟩
  have hb := hbw.trans ((hb1.alloc hb1.size (.cells #[.int .i64 CB.f, .int .i64 CB.t, .int .i64 CB.g, .int .i64 CB.n, .int .i64 CB.d, .int .i64 CB.mn, .int .i64 CB.mx] 75)).mono hbw.size)
  have bn := Blk.new w1 75 #[.int .i64 CB.f, .int .i64 CB.t, .int .i64 CB.g, .int .i64 CB.n, .int .i64 CB.d, .int .i64 CB.mn, .int .i64 CB.mx]
  have hr1 := (hrb.below hb1 hrb.lt).alloc (.cells #[.int .i64 CB.f, .int .i64 CB.t, .int .i64 CB.g, .int .i64 CB.n, .int .i64 CB.d, .int .i64 CB.mn, .int .i64 CB.mx] 75)
  clear hrb HCA hb1 hbw
  go_upto_region 2 with fail
  generalize w1.alloc (.cells #[.int .i64 CB.f, .int .i64 CB.t, .int .i64 CB.g, .int .i64 CB.n, .int .i64 CB.d, .int .i64 CB.mn, .int .i64 CB.mx] 75) = w2 at *
  generalize w1.heap.size = n at *
  have d2 : w2.cell? ⟨n, 2, none⟩ = some (.int .i64 CB.g) := bn.cell 2
  have d3 : w2.cell? ⟨n, 3, none⟩ = some (.int .i64 CB.n) := bn.cell 3
  have d4 : w2.cell? ⟨n, 4, none⟩ = some (.int .i64 CB.d) := bn.cell 4
  have r0 := hr1.cell 0
  have r1 := hr1.cell 1
  have g0 := hr1.frozen 0
  have g1 := hr1.frozen 1
  go_region
  all_goals
    have hB : Blk ((w2.setCell ⟨w.heap.size + 1, 0, none⟩ (.int .i64 CB.n)).setCell ⟨w.heap.size + 1, 1, none⟩ (.int .i64 CB.d)).drew (w.heap.size + 1) 35 #[.int .i64 CB.n, .int .i64 CB.d] := (blk_set (blk_set hr1 0 _) 1 _).drew
    have hb5 : Below w.heap.size w ((w2.setCell ⟨w.heap.size + 1, 0, none⟩ (.int .i64 CB.n)).setCell ⟨w.heap.size + 1, 1, none⟩ (.int .i64 CB.d)).drew := hb.trans (Below.drew (by (repeat (refine Below.setCell ?_ (by simp) _)); exact Below.refl _ _))
    generalize ((w2.setCell ⟨w.heap.size + 1, 0, none⟩ (.int .i64 CB.n)).setCell ⟨w.heap.size + 1, 1, none⟩ (.int .i64 CB.d)).drew = w5 at *
    go_wp2_with fail
    have c0 := hB.cell 0
    have c1 := hB.cell 1
    exact bodyPost_ret (v := .tuple #[.agg #[.int .i64 CB.n, .int .i64 CB.d], .bool (decide (0 < CB.g)), .int .i64 F]) (by simp [results, Try.results36, go_sem, c0, c1]) rfl ⟨rfl, hb5⟩
end Go.Proofs.Ytmcojidaimeijaa

/- The contract of Odd (package logmake). -/

namespace Go.Proofs.Ytmcojidaimeijaa
open Go.RowKit
set_option linter.unusedVariables false
set_option linter.unusedSimpArgs false

set_option maxRecDepth 100000 in
set_option maxHeartbeats 1000000 in
theorem odd_went (w : World) (g : Nat) (L : List Int) (A : Option Addr) (cap k : Nat) (lo hi : Int) (hS : Strm w g L A cap k) (hk : k ≤ 900000000) (hl : -1000000000 ≤ lo) (hlh : lo ≤ hi) (hh : hi ≤ 100000000000) :
    Calls Try.prog 65 #[.pointer (some ⟨g, 0, none⟩), .int .i64 lo, .int .i64 hi] w fun e w' =>
      ∃ r : Int, e = .returned (.int .i64 r) ∧ (-1099511627776 ≤ r ∧ r ≤ 1099511627776) ∧ Went w g L A cap (k + 2) w' := by
  have hr := nxt_range L (k + 1) (hi - lo + 1) (by omega)
  go_enter Try.func65, Try.ntmps65
  go_wp2_with fail
  refine (flip_went _ g L A cap k 12 hS (by omega) (by omega)).mono ?_
  rintro e w1 ⟨rfl, hw1, hz1⟩
  by_cases hN : nxt L k 12 = 0
  · have hN' : (nxt L k 12 == 0) = true := by simpa using hN
    clear hN
    go_wp2_with fail
    refine (pick_new _ _ g L A cap (k + 1) [lo - 1, hi + 1, lo, hi, -1099511627776, 1099511627776] hw1.1 hz1.symm (by omega) (by simp)).mono ?_
    rintro e w2 ⟨rfl, hw2⟩
    have hm := pk_mem [lo - 1, hi + 1, lo, hi, -1099511627776, 1099511627776] L (k + 1) (by simp)
    simp only [List.mem_cons, List.not_mem_nil, or_false] at hm
    go_wp2_with fail
    go_ret
    exact ⟨_, rfl, by omega, hw2.1, hw1.2.trans hw2.2⟩
  · have hN' : (nxt L k 12 == 0) = false := by simpa using hN
    clear hN
    go_wp2_with fail
    refine (range_went _ g L A cap (k + 1) lo hi hw1.1 (by omega) (by omega) (by omega) (by omega)).mono ?_
    rintro e w2 ⟨rfl, hw2, _⟩
    go_wp2_with fail
    go_ret
    exact ⟨_, rfl, by omega, hw2.1, hw1.2.trans hw2.2⟩
end Go.Proofs.Ytmcojidaimeijaa
