/- AverageOf, ExtremesOf (the reference), for a right series and a right window. -/
import Derived.Test.YtamcbiajicnbfaaVlo
namespace Go.Proofs.Ytamcbiajicnbfaa
open Go.RowKit
set_option linter.unusedVariables false
set_option linter.unusedSimpArgs false

set_option maxRecDepth 100000 in
set_option maxHeartbeats 4000000 in
theorem averageOf_any (v : Value) (l : List Smp) (f t : Int) (w : World) (hR : RdS w 71 v l) (hS : serErr l = 0) (hW : 0 ≤ f ∧ f ≤ t ∧ t ≤ 345686400000) :
    Calls Try.prog 77 #[v, .agg #[.int .i64 f, .int .i64 t]] w fun e w' => e = .returned (.tuple #[.agg #[.int .i64 (avgV l f t).1, .int .i64 (avgV l f t).2], .bool (decide (0 < (aggV l f t).g))]) ∧ Below w.heap.size w w' := by
  have hbw : Below w.heap.size w ((w.alloc (.cells #[.int .i64 f, .int .i64 t] 82)).alloc (.cells #[.int .i64 0, .int .i64 0] 57)) := ((Below.refl _ w).alloc (Nat.le_refl _) _).alloc (by simp) _
  have hrb : Blk ((w.alloc (.cells #[.int .i64 f, .int .i64 t] 82)).alloc (.cells #[.int .i64 0, .int .i64 0] 57)) (w.heap.size + 1) 57 #[.int .i64 0, .int .i64 0] := Blk.new1 _ _ _ _
  have hio := integralOf_any v l f t _ (Rd.alloc (Rd.alloc hR (.cells #[.int .i64 f, .int .i64 t] 82)) (.cells #[.int .i64 0, .int .i64 0] 57)) hS hW
  have hbd := aggV_bound hS hW
  have HAV := Lib.hid (show avgV l f t = if 0 < (aggV l f t).g then fracOf (aggV l f t).s (aggV l f t).g else (0, 0) from rfl)
  generalize avgV l f t = V at *
  generalize aggV l f t = A at *
  have HIO := Lib.hid hio
  clear hio hR
  go_enter Try.func77, Try.ntmps77
  go_wp2_with fail
  refine HIO.out.mono ?_
  rintro e w1 ⟨rfl, hb1⟩
  have hrb1 := hrb.below hb1 hrb.lt
  have hb := hbw.trans (hb1.mono hbw.size)
  clear HIO hrb hb1 hbw
  have r0 := hrb1.cell 0
  have r1 := hrb1.cell 1
  have g0 := hrb1.frozen 0
  have g1 := hrb1.frozen 1
  by_cases hg : A.g = 0
  · have hg' : (A.g == 0) = true := by simpa using hg
    have hg2 : decide (0 < A.g) = false := by simp; omega
    have HV := Lib.hid (show V = (0, 0) by rw [HAV.out, if_neg (by omega)])
    have HG := Lib.hid hg2
    clear hg hg2
    go_wp2_with fail
    refine bodyPost_ret (v := .tuple #[.agg #[.int .i64 0, .int .i64 0], .bool false]) (by simp [results, Try.results77, go_sem, r0, r1]) rfl ⟨by rw [HV.out, HG.out], ?_⟩
    exact hb.trans (by (repeat (refine Below.setCell ?_ (by simp) _)); exact Below.refl _ _)
  · have hg' : (A.g == 0) = false := by simpa using hg
    have hg2 : decide (0 < A.g) = true := by simp; omega
    have HV := Lib.hid (show V = fracOf A.s A.g by rw [HAV.out, if_pos (by omega)])
    have hlo := fun w => rlowest_any A.s A.g w (by omega) (by omega)
    rw [← HV.out] at hlo
    have HG := Lib.hid hg2
    clear hg hg2
    go_wp2_with (go_at_call 43; refine (hlo _).mono ?_; rintro e w2 ⟨rfl, hb2⟩; have hrb2 := hrb1.below hb2 hrb1.lt; clear r0 r1 g0 g1; have r0 := hrb2.cell 0; have r1 := hrb2.cell 1; have g0 := hrb2.frozen 0; have g1 := hrb2.frozen 1)
    refine bodyPost_ret (v := .tuple #[.agg #[.int .i64 V.1, .int .i64 V.2], .bool true]) (by simp [results, Try.results77, go_sem, r0, r1]) rfl ⟨by rw [HG.out], ?_⟩
    exact hb.trans ((by (repeat (refine Below.setCell ?_ (by simp) _)); exact hb2.mono hb.size))

set_option maxRecDepth 100000 in
set_option maxHeartbeats 4000000 in
theorem extremesOf_any (v : Value) (l : List Smp) (f t : Int) (w : World) (hR : RdS w 71 v l) (hS : serErr l = 0) (hW : 0 ≤ f ∧ f ≤ t ∧ t ≤ 345686400000) :
    Calls Try.prog 78 #[v, .agg #[.int .i64 f, .int .i64 t]] w fun e w' => e = .returned (.tuple #[.int .i64 (aggV l f t).mn, .int .i64 (aggV l f t).mx, .bool (decide (0 < (aggV l f t).g))]) ∧ Below w.heap.size w w' := by
  have hbw : Below w.heap.size w (w.alloc (.cells #[.int .i64 f, .int .i64 t] 82)) := (Below.refl _ w).alloc (Nat.le_refl _) _
  have hva := valuedR_any v l f t _ (Rd.alloc hR (.cells #[.int .i64 f, .int .i64 t] 82)) hS hW
  have hlong := (serErr_good hS).1
  have hvl := valL_long l f t
  have hok := valL_ok (f := f) (t := t) hS
  have hag : aggV l f t = agS (valL l f t) := rfl
  rw [hag]
  clear hag
  generalize valL l f t = R at *
  have HVA := Lib.hid hva
  have HOK := Lib.hid hok
  clear hva hR hok
  go_enter Try.func78, Try.ntmps78
  go_wp2_with fail
  refine HVA.out.mono ?_
  rintro e w1 ⟨vr, rfl, hrd, hb1⟩
  obtain ⟨pr, cr, rfl⟩ := hrd.lenv
  have hb := hbw.trans (hb1.mono hbw.size)
  have HRD := Lib.hid hrd
  clear HVA hbw hb1 hrd
  go_wp2_with fail
  go_loopw [4, 5, 6, 13] (fun a b c i wr => ∃ k : Nat, k ≤ R.length ∧ i = .int .i64 (k : Int) ∧ a = .int .i64 (agS (R.take k)).mn ∧ b = .int .i64 (agS (R.take k)).mx ∧ c = .bool (decide (0 < k)) ∧ Below w1.heap.size w1 wr) (fun _ _ _ i _ => R.length - (intOf i).toNat)
  case atStart => exact ⟨0, by omega, rfl, rfl, rfl, rfl, Below.refl _ _⟩
  case round =>
    obtain ⟨k, hk, rfl, rfl, rfl, rfl, hbr⟩ := hrel
    by_cases hkl : k < R.length
    · have hRr : RdStr wr _ R := Rd.below HRD.out hbr
      obtain ⟨b, off, c, hv, hc1, hc2, hblt, hcell⟩ := RdStr.at_ hRr (by omega)
      cases hv
      unfold maxLen at hc2
      obtain ⟨c0, c1, c2, c3, c4⟩ := hcell k hkl
      have hT := agS_take R k hkl
      have hg0 : k ≠ 0 → (agS (R.take k)).g ≠ 0 := fun h => by
        have := agS_pos (f := f) (t := t) (r := R.take k) (fun x hx => HOK.out x (List.mem_of_mem_take hx))
        rw [List.length_take] at this; omega
      have hg1 : k = 0 → (agS (R.take k)).g = 0 := fun h => by subst h; rfl
      have HK := Lib.hid (show decide (0 < k + 1) = true by simp)
      generalize decide (0 < k) = isk at *
      generalize atT R k = x at *
      generalize agS (R.take k) = A at *
      obtain ⟨mn0, hmn0⟩ : ∃ m, m = if A.g = 0 then x.s.v else A.mn := ⟨_, rfl⟩
      obtain ⟨mx0, hmx0⟩ : ∃ m, m = if A.g = 0 then x.s.v else A.mx := ⟨_, rfl⟩
      obtain ⟨mn1, hmn1⟩ : ∃ m, m = if mn0 ≤ x.s.v then mn0 else x.s.v := ⟨_, rfl⟩
      obtain ⟨mx1, hmx1⟩ : ∃ m, m = if mx0 < x.s.v then x.s.v else mx0 := ⟨_, rfl⟩
      have HT := Lib.hid (show (agS (R.take (k + 1))).mn = mn1 ∧ (agS (R.take (k + 1))).mx = mx1 by rw [hT]; unfold agT; rw [hmn1, hmx1, hmn0, hmx0]; exact ⟨rfl, rfl⟩)
      have HM0 := Lib.hid hmn0
      have HX0 := Lib.hid hmx0
      have HM1 := Lib.hid hmn1
      have HX1 := Lib.hid hmx1
      have hba := hbr.alloc hbr.size (.cells #[.int .i64 x.a, .int .i64 x.b, .int .i64 x.s.t, .int .i64 x.s.v, .int .i64 x.s.q] 192)
      have bX := Blk.new wr 192 #[.int .i64 x.a, .int .i64 x.b, .int .i64 x.s.t, .int .i64 x.s.v, .int .i64 x.s.q]
      have HG0 := Lib.hid hg0
      have HG1 := Lib.hid hg1
      clear hcell hRr hT hmn0 hmx0 hmn1 hmx1 hg0 hg1
      go_upto_if 19 with fail
      generalize hw5 : wr.alloc (.cells #[.int .i64 x.a, .int .i64 x.b, .int .i64 x.s.t, .int .i64 x.s.v, .int .i64 x.s.q] 192) = w5 at *
      generalize wr.heap.size = n5 at *
      have d3 := bX.cell 3
      clear hw5 c0 c1 c2 c3 c4
      go_cut [4, 5] from 18 to 36 (fun s4 s5 wx => s4 = .int .i64 mn0 ∧ s5 = .int .i64 mx0 ∧ Blk wx n5 192 #[.int .i64 x.a, .int .i64 x.b, .int .i64 x.s.t, .int .i64 x.s.v, .int .i64 x.s.q] ∧ Below w1.heap.size w1 wx)
      case first =>
        by_cases hk0 : k = 0
        · have hk0' : ((k : Int) == 0) = true := by simp; omega
          have HH := Lib.hid (HG1.out hk0)
          clear hk0
          go_wp2_with fail
          go_region
          all_goals go_wp2_with fail
          all_goals go_meet
          all_goals exact ⟨by rw [HM0.out, if_pos HH.out], by rw [HX0.out, if_pos HH.out], bX.drew, hba.drew⟩
        · have hk0' : ((k : Int) == 0) = false := by simp; omega
          have HH := Lib.hid (HG0.out hk0)
          clear hk0
          go_wp2_with fail
          go_meet
          exact ⟨by rw [HM0.out, if_neg HH.out], by rw [HX0.out, if_neg HH.out], bX, hba⟩
      case rest =>
        obtain ⟨rfl, rfl, bX6, hb6⟩ := hcut
        clear d3 bX hba
        have d3 := bX6.cell 3
        by_cases ha : mn0 ≤ x.s.v
        all_goals by_cases hbx : mx0 < x.s.v
        all_goals
          have hm1 := HM1.out
          have hx1 := HX1.out
          (first | rw [if_pos ha] at hm1 | rw [if_neg ha] at hm1)
          (first | rw [if_pos hbx] at hx1 | rw [if_neg hbx] at hx1)
          have HMM := Lib.hid hm1
          have HXX := Lib.hid hx1
          clear hm1 hx1
          go_wp2_with fail
          go_region
          all_goals go_wp2_with fail
          all_goals
            go_roundw
            case rel => exact ⟨k + 1, by omega, by go_num, by rw [HT.out.1, HMM.out], by rw [HT.out.2, HXX.out], by rw [HK.out], hb6.drew⟩
            case measure => simp [intOf]; omega
    · have hkE : k = R.length := by omega
      subst hkE
      have hg : decide (0 < R.length) = decide (0 < (agS R).g) := by
        have h1 := agS_pos (f := f) (t := t) (r := R) HOK.out
        rcases Nat.eq_zero_or_pos R.length with h0 | h0
        · have : R = [] := List.eq_nil_of_length_eq_zero h0
          subst this; rfl
        · rw [decide_eq_true h0, decide_eq_true (by omega)]
      have HGG := Lib.hid hg
      have HTL := Lib.hid (show R.take R.length = R from List.take_length)
      clear hg
      go_wp2_with fail
      refine bodyPost_ret (v := .tuple #[.int .i64 (agS (R.take R.length)).mn, .int .i64 (agS (R.take R.length)).mx, .bool (decide (0 < R.length))]) (by simp [results, Try.results78, go_sem]) rfl ⟨by rw [HTL.out, HGG.out], hb.trans (hbr.mono hb.size)⟩
end Go.Proofs.Ytamcbiajicnbfaa
