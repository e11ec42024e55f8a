/- MedianOf (the reference), for a right series of at most 19 samples and a right window. -/
import Derived.Test.YtamcbiajicnbfaaMedm
import Derived.Test.YtamcbiajicnbfaaVlo
import Derived.Test.YtamcbiajicnbfaaRsrt
namespace Go.Proofs.Ytamcbiajicnbfaa
open Go.RowKit
set_option linter.unusedVariables false
set_option linter.unusedSimpArgs false

theorem medV_at (r : List Str) (k : Nat) (h : k < r.length) : (medV r)[k]'(by simpa [medV] using h) = ((atT r k).s.v, (atT r k).b - (atT r k).a) := by
  simp [medV, ← atT_eq r k h]

set_option maxRecDepth 100000 in
set_option maxHeartbeats 4000000 in
theorem medianOf_any (v : Value) (l : List Smp) (f t : Int) (w : World) (hR : RdS w 71 v l) (hS : serErr l = 0) (hW : 0 ≤ f ∧ f ≤ t ∧ t ≤ 345686400000) (hl : l.length ≤ 19) :
    Calls Try.prog 79 #[v, .agg #[.int .i64 f, .int .i64 t]] w fun e w' => e = .returned (.tuple #[.int .i64 ((medR l f t).getD 0), .bool (medR l f t).isSome]) ∧ Below w.heap.size w w' := by
  have hbw : Below w.heap.size w (w.alloc (.cells #[.int .i64 f, .int .i64 t] 82)) := (Below.refl _ w).alloc (Nat.le_refl _) _
  have bw0 : Blk (w.alloc (.cells #[.int .i64 f, .int .i64 t] 82)) w.heap.size 82 #[.int .i64 f, .int .i64 t] := Blk.new w _ _
  have HVA := Lib.hid (valuedO_any v l f t _ (Rd.alloc hR (.cells #[.int .i64 f, .int .i64 t] 82)) hS hW)
  have HIN := Lib.hid (fun (W : World) (hb : Below w.heap.size w W) => integralOf_any v l f t W (Rd.below hR hb) hS hW)
  have hvl := valL_long l f t
  have HOK := Lib.hid (valL_ok (f := f) (t := t) hS)
  have HMR := Lib.hid (fun (r : List (Int × Int)) (hp : r.Perm (medV (valL l f t))) (hs : r.Pairwise (fun x y => x.1 ≤ y.1)) => medR_is (f := f) (t := t) hS hp hs)
  have HG := Lib.hid (aggV_bound hS hW).1
  generalize valL l f t = R at *
  generalize medR l f t = M at *
  generalize aggV l f t = AG at *
  clear hR
  have hmx : Try.prog.follows .mixedOrders = true := by kernel_rfl
  go_enter Try.func79, Try.ntmps79
  go_wp2_with fail
  refine HVA.out.mono ?_
  rintro e w1 ⟨vr, rfl, hown, hb1⟩
  have hb1' := hbw.trans (hb1.mono hbw.size)
  have HSO := Lib.hid (sortStr_any vr R (w.alloc (.cells #[.int .i64 f, .int .i64 t] 82)).heap.size w1 (by omega) hown)
  have bw1 := bw0.below hb1 bw0.lt
  have hbw0 := hbw.size
  obtain ⟨pr, cr, rfl⟩ : ∃ pr cr, vr = .slice pr R.length cr := RdStr.lenv (Rd.of_own hown)
  clear HVA hbw hb1 hown bw0
  go_wp2_with fail
  refine HSO.out.mono ?_
  rintro e w2 ⟨rfl, R', hp, hs, hown2, hb2⟩
  have hb2' := hb1'.trans (hb2.mono hbw0)
  have hlen : R'.length = R.length := hp.length_eq
  have bw2 : Blk w2 w.heap.size 82 #[.int .i64 f, .int .i64 t] := bw1.below hb2 (by simp)
  have e0 := bw2.cell 0
  have e1 := bw2.cell 1
  clear HSO hb1' hb2 bw1
  go_wp2_with fail
  refine (HIN.out _ hb2').mono ?_
  rintro e w3 ⟨rfl, hb3⟩
  have hb := hb2'.trans (hb3.mono hb2'.size)
  have HRD := Lib.hid (show RdStr w3 (.slice pr R.length cr) R' by unfold RdStr; rw [hlen]; rw [hlen] at hown2; exact Rd.of_own (ownT_below hown2 hb3))
  have HM := Lib.hid (HMR.out _ (medV_perm hp) (medV_sorted hs))
  have HOK' := Lib.hid (fun x hx => HOK.out x (hp.mem_iff.1 hx))
  have hr19 : R'.length ≤ 19 := by omega
  rw [← hlen] at *
  clear HMR hp hs HOK hown2 hb2' hb3 e0 e1 bw2 HIN hbw0
  go_wp2_with fail
  go_loopw [9, 25] (fun g i wr => ∃ k : Nat, k ≤ R'.length ∧ i = .int .i64 (k : Int) ∧ g = .int .i64 (sumF ((medV R').take k)) ∧ M = medF AG.g (sumF ((medV R').take k)) ((medV R').drop k) ∧ Below w3.heap.size w3 wr) (fun _ i _ => R'.length - (intOf i).toNat)
  case atStart => exact ⟨0, by omega, rfl, rfl, by simpa [sumF] using HM.out.symm, Below.refl _ _⟩
  case round =>
    obtain ⟨k, hk, rfl, rfl, hm, hbr⟩ := hrel
    have HMM := Lib.hid hm
    clear hm
    have hml : (medV R').length = R'.length := by simp [medV]
    have hbk := sumF_bound 345686400000 ((medV R').take k) (fun x hx => by
      obtain ⟨y, hy, rfl⟩ := List.mem_map.1 (List.mem_of_mem_take hx)
      have := HOK'.out y hy
      unfold StrOk at this
      constructor <;> show _ <;> (try dsimp only) <;> omega)
    have hlk : ((medV R').take k).length ≤ 19 := by rw [List.length_take, hml]; omega
    by_cases hkl : k < R'.length
    · have hRr : RdStr wr _ R' := Rd.below HRD.out hbr
      obtain ⟨b, off, c, hv, hc1, hc2, hblt, hcell⟩ := RdStr.at_ hRr (by omega)
      cases hv
      unfold maxLen at hc2
      obtain ⟨c0, c1, c2, c3, c4⟩ := hcell k hkl
      have hx := HOK'.out _ (atT_mem R' k hkl)
      unfold StrOk at hx
      have HT := Lib.hid (sumF_take (medV R') k (by omega))
      have HD := Lib.hid (medF_drop AG.g (sumF ((medV R').take k)) (medV R') k (by omega))
      rw [medV_at R' k hkl] at HT HD
      have hlg := fun w => rlong_eq (atT R' k).a (atT R' k).b w ⟨by omega, by omega, by omega⟩
      generalize atT R' k = x at *
      generalize hA0 : sumF ((medV R').take k) = A at *
      clear hA0
      have hA : 0 ≤ A ∧ A ≤ 6568041600000 := by omega
      have hba := hbr.alloc hbr.size (.cells #[.int .i64 x.a, .int .i64 x.b, .int .i64 x.s.t, .int .i64 x.s.v, .int .i64 x.s.q] 192)
      have bX := Blk.new wr 192 #[.int .i64 x.a, .int .i64 x.b, .int .i64 x.s.t, .int .i64 x.s.v, .int .i64 x.s.q]
      clear hcell hRr hbk hlk hml
      go_upto_region 8 with fail
      generalize hw5 : wr.alloc (.cells #[.int .i64 x.a, .int .i64 x.b, .int .i64 x.s.t, .int .i64 x.s.v, .int .i64 x.s.q] 192) = w5 at *
      generalize wr.heap.size = n5 at *
      have d0 := bX.cell 0
      have d1 := bX.cell 1
      have d3 := bX.cell 3
      have z5 := bX.lt
      have hm2 : IntKind.i64.wrap (A + (x.b - x.a)) = A + (x.b - x.a) := IntWalk.i64_in _ (by omega)
      have hm3 : IntKind.i64.wrap (2 * (A + (x.b - x.a))) = 2 * (A + (x.b - x.a)) := IntWalk.i64_in _ (by omega)
      clear hw5 c0 c1 c2 c3 c4
      have hba2 := hba.alloc hba.size (.cells #[.int .i64 x.a, .int .i64 x.b] 82)
      by_cases hq : AG.g ≤ 2 * (A + (x.b - x.a))
      · have HQ := Lib.hid (show M = some x.s.v by rw [HMM.out, HD.out, if_pos hq])
        go_wp2_with (go_at_call 149; refine (hlg _).mono ?_; rintro e wk ⟨rfl, rfl⟩)
        go_ret2
        exact ⟨by rw [HQ.out]; rfl, hb.trans (hba2.mono hb.size)⟩
      · have HQ := Lib.hid (show M = medF AG.g (A + (x.b - x.a)) ((medV R').drop (k + 1)) by rw [HMM.out, HD.out, if_neg hq])
        go_wp2_with (go_at_call 149; refine (hlg _).mono ?_; rintro e wk ⟨rfl, rfl⟩)
        go_roundw
        case rel => exact ⟨k + 1, by omega, by go_num, by rw [HT.out], by rw [HT.out]; exact HQ.out, hba2⟩
        case measure => simp [intOf]; omega
    · have hkE : k = R'.length := by omega
      subst hkE
      have HN := Lib.hid (show M = none by rw [HMM.out, List.drop_of_length_le (by omega)]; rfl)
      go_wp2_with fail
      go_ret2
      exact ⟨by rw [HN.out]; rfl, hb.trans (hbr.mono hb.size)⟩
end Go.Proofs.Ytamcbiajicnbfaa
