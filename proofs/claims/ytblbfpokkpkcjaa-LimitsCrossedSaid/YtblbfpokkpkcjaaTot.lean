/- The contract of Total (package query). -/
import Derived.Test.YtblbfpokkpkcjaaQck
import Derived.Test.YtblbfpokkpkcjaaKwm
import Derived.Test.YtblbfpokkpkcjaaTotm
import Derived.Test.YtblbfpokkpkcjaaPos
import Derived.Deep.RegionWith
import Derived.Deep.RegionHeld3
import Derived.Deep.DeepCutAuto
namespace Go.Proofs.Ytblbfpokkpkcjaa
open Go.RowKit
set_option linter.unusedVariables false
set_option linter.unusedSimpArgs false

theorem increase_any (a n roll : Int) (w : World) (h1 : -4000000000000000000 ≤ a ∧ a ≤ 4000000000000000000) (h2 : -2000000000000000000 ≤ n ∧ n ≤ 2000000000000000000) (h3 : -2000000000000000000 ≤ roll ∧ roll ≤ 2000000000000000000) :
    Calls Try.prog 158 #[.int .i64 a, .int .i64 n, .int .i64 roll] w fun e w' => e = .returned (.int .i64 (incI a n roll)) ∧ w = w' := by
  by_cases h : n < a
  · have hE : incI a n roll = n + roll - a := by unfold incI; rw [if_pos h]
    have HE := Lib.hid hE
    clear hE
    go_enter Try.func158, Try.ntmps158
    go_wp2_with fail
    go_ret
    exact ⟨ret_int HE.out.symm, rfl⟩
  · have hE : incI a n roll = n - a := by unfold incI; rw [if_neg h]
    have HE := Lib.hid hE
    clear hE
    go_enter Try.func158, Try.ntmps158
    go_wp2_with fail
    go_ret
    exact ⟨ret_int HE.out.symm, rfl⟩

set_option maxRecDepth 100000 in
set_option maxHeartbeats 4000000 in
theorem total_any (v : Value) (l : List Smp) (f t roll : Int) (w : World) (hR : RdS w 71 v l) (hroll : -2000000000000000000 ≤ roll ∧ roll ≤ 2000000000000000000) :
    Calls Try.prog 90 #[v, .agg #[.int .i64 f, .int .i64 t], .int .i64 roll] w fun e w' => e = .returned (.tuple #[.int .i64 (totV l f t roll), .int .i64 (totE l f t roll)]) ∧ Below w.heap.size w w' := by
  have hE : totE l f t roll = orE (orE (serErr l) (winErr f t)) (if inB roll 1 2000000000 = false then 1 else if tAll roll (slicF f (t + 1) l) = true then 0 else 16) := rfl
  have hV : totV l f t roll = if totE l f t roll = 0 then (tSt roll (slicF f (t + 1) l)).1 else 0 := rfl
  generalize totV l f t roll = V at *
  generalize totE l f t roll = E at *
  have HE := Lib.hid hE
  have HV := Lib.hid hV
  obtain ⟨pa, ca, rfl⟩ := hR.lenv
  obtain ⟨hca, hcm⟩ : l.length ≤ ca ∧ ca ≤ 9223372036854775807 := by
    obtain ⟨_, pa', ca', hv, h1, h2, _⟩ := hR
    simp only [Value.slice.injEq, true_and] at hv
    obtain ⟨rfl, rfl⟩ := hv
    unfold maxLen at h2
    exact ⟨h1, by omega⟩
  have hk0 := KW.start (f := f) (t := t) hR
  have HK0 := Lib.hid hk0
  have hbq := Blk.new1 w (.cells #[.int .i64 f, .int .i64 t] 82) 32 #[.slice pa l.length ca]
  have hqc := qcheck1_any (w.heap.size + 1) (.slice pa l.length ca) l f t _ hbq (hk0.alloc (.cells #[.slice pa l.length ca] 32)).rs
  have HQC := Lib.hid hqc
  clear hE hV hR hk0 hbq hqc
  go_enter Try.func90, Try.ntmps90
  go_wp2_with fail
  refine HQC.out.mono ?_
  rintro e w1 ⟨rfl, hb1⟩
  have hk1 := KW.step hb1 (HK0.out.alloc _)
  clear hb1 HQC
  by_cases h0 : orE (serErr l) (winErr f t) = 0
  · have h0' : (orE (serErr l) (winErr f t) != 0) = false := by simpa using h0
    have hS : serErr l = 0 := by unfold orE at h0; split at h0 <;> omega
    have hW : winB f t = true := by
      unfold orE at h0; rw [if_neg (by rw [hS]; simp)] at h0
      unfold winErr at h0
      by_cases hw : winB f t = true
      · exact hw
      · rw [if_neg hw] at h0; omega
    have H0 := Lib.hid h0
    have HS := Lib.hid hS
    have HW := Lib.hid hW
    clear h0 hS hW
    go_wp2_with fail
    refine (within_any roll 1 2000000000 _).mono ?_
    rintro e w2 ⟨rfl, rfl⟩
    by_cases hro : inB roll 1 2000000000 = true
    · have hrr := inB_true.1 hro
      have HRO := Lib.hid hro
      rw [hro]
      clear hro hroll
      obtain ⟨hw1, hw2, hw3⟩ := winB_true.1 HW.out
      have hlong := (serErr_good HS.out).1
      have hrise := serErr_rise HS.out
      have hsl := slic_between none l f (t + 1) hrise (by omega)
      have hm := posF_mono l (show f ≤ t + 1 by omega)
      have hle := posF_le l (t + 1)
      have HSL := Lib.hid hsl
      have hpos : ∀ (w1 : World) (u : Int), RdS w1 71 (.slice pa l.length ca) l → _ := fun w1 u h => position_any (.slice pa l.length ca) l u w1 h hrise hlong
      have HPOS := Lib.hid hpos
      have hpart : ∀ w1 : World, RdS w1 71 (.slice pa l.length ca) l → RdS w1 71 (.slice (Option.map (fun x => x.add (posF l f * 3)) pa) (posF l (t + 1) - posF l f) (ca - posF l f)) (slicF f (t + 1) l) := fun w1 h => by
        have := RdS.part h (posF l f) (posF l (t + 1)) hm hle (Option.map (fun x => x.add (posF l f * 3)) pa) (fun _ b off e => by subst e; simp [Addr.add])
        rwa [HSL.out] at this
      have hslen : (slicF f (t + 1) l).length = posF l (t + 1) - posF l f := by rw [← HSL.out, List.length_take, List.length_drop]; omega
      have hwr : IntKind.i64.wrap (t + 1) = t + 1 := IntWalk.i64_in _ (by omega)
      have hpf := fun w1 h => HPOS.out w1 f h
      have hpt := fun w1 h => HPOS.out w1 (t + 1) h
      have HPF := Lib.hid hpf
      have HPT := Lib.hid hpt
      clear hpf hpt hpos hsl HPOS hrise
      generalize posF l f = i at *
      generalize posF l (t + 1) = j at *
      have k1 : (0 : Int) ≤ (i : Int) := by omega
      have k2 : (i : Int) ≤ (j : Int) := by omega
      have k3 : (j : Int) ≤ (ca : Int) := by omega
      have e0 : w1.cell? ⟨w.heap.size, 0, none⟩ = some (.int .i64 f) := hk1.bw.cell 0
      have e1 : w1.cell? ⟨w.heap.size, 1, none⟩ = some (.int .i64 t) := hk1.bw.cell 1
      go_upto_region 7 with fail
      by_cases hci : ca = i
      · have hji : j = i := by omega
        have hS0 : slicF f (t + 1) l = [] := List.eq_nil_of_length_eq_zero (by rw [hslen]; omega)
        have HS0 := Lib.hid hS0
        subst hji
        subst hci
        clear hpart hslen hS0
        go_region_held3 (fun w' => w'.cell? ⟨w.heap.size, 0, none⟩ = some (.int .i64 f) ∧ w'.cell? ⟨w.heap.size, 1, none⟩ = some (.int .i64 t))
          (first | exact ⟨hkk.bw.cell 0, hkk.bw.cell 1⟩ | exact ⟨e0, e1⟩ | go_keep)
          (first
          | (go_at_call 157; (with_reducible refine (HPF.out _ (KW.rs (by first | assumption | exact KW.drew (by assumption)))).mono ?_); rintro e wk ⟨rfl, hbk⟩; have hkk := KW.step hbk (by first | assumption | exact KW.drew (by assumption)); clear hbk)
          | (go_at_call 157; (with_reducible refine (HPT.out _ (KW.rs (by first | assumption | exact KW.drew (by assumption)))).mono ?_); rintro e wk ⟨rfl, hbk⟩; have hkk := KW.step hbk (by first | assumption | exact KW.drew (by assumption)); clear hbk))
        go_wp2_with fail
        refine wp_loop_rounds 1 ?_
        rw [rounds_succ]
        go_wp2_with fail
        go_ret2
        have hE1 : E = 0 := by rw [HE.out, H0.out, HRO.out, HS0.out]; rfl
        exact ⟨by rw [HV.out, if_pos hE1, hE1, HS0.out]; rfl, hkk.be⟩
      · have HPART := Lib.hid hpart
        clear hpart
        go_region_held3 (fun w' => w'.cell? ⟨w.heap.size, 0, none⟩ = some (.int .i64 f) ∧ w'.cell? ⟨w.heap.size, 1, none⟩ = some (.int .i64 t))
          (first | exact ⟨hkk.bw.cell 0, hkk.bw.cell 1⟩ | exact ⟨e0, e1⟩ | go_keep)
          (first
          | (go_at_call 157; (with_reducible refine (HPF.out _ (KW.rs (by first | assumption | exact KW.drew (by assumption)))).mono ?_); rintro e wk ⟨rfl, hbk⟩; have hkk := KW.step hbk (by first | assumption | exact KW.drew (by assumption)); clear hbk)
          | (go_at_call 157; (with_reducible refine (HPT.out _ (KW.rs (by first | assumption | exact KW.drew (by assumption)))).mono ?_); rintro e wk ⟨rfl, hbk⟩; have hkk := KW.step hbk (by first | assumption | exact KW.drew (by assumption)); clear hbk))
        go_wp2_with fail
        have hrs := HPART.out _ hkk.rs
        generalize Option.map (fun x => x.add (i * 3)) pa = pq at *
        generalize ca - i = cq at *
        have HRO2 := Lib.hid (And.intro H0.out HRO.out)
        clear HPART HPF HPT HSL e0 e1 k1 k2 k3
        have hS5 : (slicF f (t + 1) l).length ≤ 5000 := by omega
        generalize slicF f (t + 1) l = S at *
        generalize j - i = N at *
        subst hslen
        clear hm hle hci
        go_loopw [9, 10, 37] (fun st sl si wr => ∃ m : Nat, m ≤ S.length ∧ si = .int .i64 (m : Int) ∧ st = .int .i64 (tSt roll (S.take m)).1 ∧ sl = .int .i64 (tSt roll (S.take m)).2 ∧ tAll roll (S.take m) = true ∧ Below wk.heap.size wk wr) (fun _ _ i _ => S.length - (intOf i).toNat)
        case atStart => exact ⟨0, by omega, rfl, rfl, rfl, rfl, Below.refl _ _⟩
        case round =>
          obtain ⟨m, hm, rfl, rfl, rfl, hall, hbr⟩ := hrel
          have hbd := tSt_bound hrr _ hall
          have htl : (S.take m).length = m := by rw [List.length_take]; omega
          rw [htl] at hbd
          have HALL := Lib.hid hall
          clear hall htl
          by_cases hlt : m < S.length
          · have hsu := tSt_succ roll S m hlt
            have hau := tAll_succ roll S m hlt
            rw [HALL.out, Bool.true_and] at hau
            have hrsr : RdS wr 71 _ S := Rd.below hrs hbr
            obtain ⟨b, off, c, hv, hc1, hc2, hblt, hcell⟩ := RdS.at_ hrsr (by omega)
            cases hv
            unfold maxLen at hc2
            obtain ⟨c0, c1, c2⟩ := hcell m hlt
            have hbad := fun h => tAll_false (roll := roll) hlt h
            have HBAD := Lib.hid hbad
            have HSU := Lib.hid hsu
            have HAU := Lib.hid hau
            have hok : tOk roll (atS S m) = (decide ((atS S m).q = 2) || inB (atS S m).v 0 (roll - 1)) := rfl
            have HOK := Lib.hid hok
            have hbx := hbr.alloc hbr.size (.cells #[.int .i64 (atS S m).t, .int .i64 (atS S m).v, .int .i64 (atS S m).q] 71)
            clear hcell hrsr hbad hsu hau hok
            generalize atS S m = x at *
            generalize tSt roll (S.take m) = s at *
            obtain ⟨sum, last⟩ := s
            simp only at hbd
            have hmm : (m : Int) ≤ 5000 := by omega
            by_cases hq : x.q = 2
            · have hq' : (x.q == 2) = true := by simpa using hq
              have h1 : tSt roll (S.take (m + 1)) = (sum, last) := by rw [HSU.out]; unfold tStep; rw [if_pos hq]
              have h2 : tAll roll (S.take (m + 1)) = true := by rw [HAU.out, HOK.out, hq]; simp
              have H12 := Lib.hid (And.intro h1 h2)
              clear hq h1 h2
              go_wp2_with fail
              go_roundw
              case rel => exact ⟨m + 1, by omega, by go_num, by rw [H12.out.1], by rw [H12.out.1], H12.out.2, hbx⟩
              case measure => simp [intOf]; omega
            · have hq' : (x.q == 2) = false := by simpa using hq
              have hq2 : decide (x.q = 2) = false := by simpa using hq
              have HQ := Lib.hid hq
              have HQ2 := Lib.hid hq2
              have hwi := fun w => within_any x.v 0 (roll - 1) w
              cases hin : inB x.v 0 (roll - 1)
              · have hb1 : tAll roll S = false := HBAD.out (by rw [HOK.out, HQ2.out, hin]; rfl)
                have HB1 := Lib.hid hb1
                rw [hin] at hwi
                clear hq hq2 hin hb1
                go_wp2_with (go_at_call 155; refine (hwi _).mono ?_; rintro e wj ⟨rfl, rfl⟩)
                go_ret2
                have hE1 : E = 16 := by rw [HE.out, HRO2.out.1, HRO2.out.2, HB1.out]; rfl
                exact ⟨by rw [HV.out, if_neg (by omega), hE1]; rfl, hkk.be.trans (hbx.mono hkk.be.size)⟩
              · have h2 : tAll roll (S.take (m + 1)) = true := by rw [HAU.out, HOK.out, HQ2.out, hin]; rfl
                have hxv := inB_true.1 hin
                have H2 := Lib.hid h2
                rw [hin] at hwi
                clear hq hq2 hin h2
                by_cases h0 : 0 ≤ last
                · have h1 : tSt roll (S.take (m + 1)) = (sum + incI last x.v roll, x.v) := by rw [HSU.out]; unfold tStep; rw [if_neg HQ.out, if_pos h0]
                  have H1 := Lib.hid h1
                  have hii : 0 ≤ incI last x.v roll ∧ incI last x.v roll ≤ 2000000000 := by unfold incI; split <;> omega
                  have hinc := fun w => increase_any last x.v roll w (by omega) (by omega) (by omega)
                  have hwr2 : IntKind.i64.wrap (sum + incI last x.v roll) = sum + incI last x.v roll := IntWalk.i64_in _ (by omega)
                  clear h1
                  generalize incI last x.v roll = I at *
                  go_wp2_with (first | (go_at_call 155; refine (hwi _).mono ?_; rintro e wj ⟨rfl, rfl⟩) | (go_at_call 158; refine (hinc _).mono ?_; rintro e wj ⟨rfl, rfl⟩))
                  go_roundw
                  case rel => exact ⟨m + 1, by omega, by go_num, by rw [H1.out], by rw [H1.out], H2.out, hbx⟩
                  case measure => simp [intOf]; omega
                · have h1 : tSt roll (S.take (m + 1)) = (sum, x.v) := by rw [HSU.out]; unfold tStep; rw [if_neg HQ.out, if_neg h0]
                  have H1 := Lib.hid h1
                  have h0' : last < 0 := by omega
                  clear h1 h0
                  go_wp2_with (go_at_call 155; refine (hwi _).mono ?_; rintro e wj ⟨rfl, rfl⟩)
                  go_roundw
                  case rel => exact ⟨m + 1, by omega, by go_num, by rw [H1.out], by rw [H1.out], H2.out, hbx⟩
                  case measure => simp [intOf]; omega
          · obtain rfl : m = S.length := by omega
            have hta : S.take S.length = S := List.take_length
            have HTA := Lib.hid hta
            clear hta
            go_wp2_with fail
            go_ret2
            have hE1 : E = 0 := by rw [HE.out, HRO2.out.1, HRO2.out.2, ← HTA.out, HALL.out]; rfl
            exact ⟨by rw [HV.out, if_pos hE1, hE1, HTA.out]; rfl, hkk.be.trans (hbr.mono hkk.be.size)⟩
    · have hro' : inB roll 1 2000000000 = false := by simpa using hro
      have HRO := Lib.hid hro'
      rw [hro']
      clear hro hro'
      go_wp2_with fail
      go_ret2
      have hE1 : E = 1 := by rw [HE.out, H0.out, if_pos HRO.out]; rfl
      exact ⟨by rw [HV.out, if_neg (by omega), hE1]; rfl, hk1.be⟩
  · have h0' : (orE (serErr l) (winErr f t) != 0) = true := by simpa using h0
    have H0 := Lib.hid h0
    clear h0
    go_wp2_with fail
    go_ret2
    have hE1 : E = orE (serErr l) (winErr f t) := by rw [HE.out, orE, if_pos H0.out]
    exact ⟨by rw [HV.out, if_neg (by rw [hE1]; exact H0.out), hE1]; rfl, hk1.be⟩
end Go.Proofs.Ytblbfpokkpkcjaa
